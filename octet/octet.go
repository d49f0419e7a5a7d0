// Package octet is layer 1: bytes and texts. See shared/doc/01-octet.md.
package octet

import "drawbridge/api"

// Token: whether a text is a token.
func Token(s string) bool {
	return s != "" && each(s, inToken)
}

// Value: whether a text may be a field's value.
func Value(s string) bool {
	if s == "" {
		return true
	}
	return each(s, inValue) && !blank(s[0]) && !blank(s[len(s)-1])
}

// Lower: a text with small letters.
func Lower(s string) string {
	// Byte by byte: texts needn't be of Unicode, and bytes that aren't must stay.
	b := make([]byte, len(s))
	for i := range len(s) {
		b[i] = small(s[i])
	}
	return string(b)
}

// Same: whether two texts are the same but for their letters' cases.
func Same(a, b string) bool {
	if len(a) != len(b) {
		return false
	}
	for i := range len(a) {
		if small(a[i]) != small(b[i]) {
			return false
		}
	}
	return true
}

// Trim: a text without the blanks at its ends.
func Trim(s string) string {
	for s != "" && blank(s[0]) {
		s = s[1:]
	}
	for s != "" && blank(s[len(s)-1]) {
		s = s[:len(s)-1]
	}
	return s
}

// Decimal: the number that a text of digits says. ErrForm, ErrRange.
func Decimal(s string) (int64, api.Errno) { return number(s, 10) }

// Hex: the number that a text of digits of base sixteen says. ErrForm, ErrRange.
func Hex(s string) (int64, api.Errno) { return number(s, 16) }

// Digits: a number's text; "" below 0.
func Digits(n int64) string { return text(n, 10) }

// HexDigits: a number's text in base sixteen; "" below 0.
func HexDigits(n int64) string { return text(n, 16) }

// Put: the lowest bytes of a number, the highest first.
func Put(n uint32, size int) []byte {
	if !sized(size) {
		return nil
	}
	b := make([]byte, size)
	for i := range size {
		b[size-1-i] = byte(n >> (8 * i))
	}
	return b
}

// Take: the number that bytes say. ErrArg, ErrShort.
func Take(b []byte, at, size int) (uint32, api.Errno) {
	if !sized(size) || at < 0 {
		return 0, api.ErrArg
	}
	// Not at+size > len(b): that sum might wrap round.
	if len(b)-at < size {
		return 0, api.ErrShort
	}
	n := uint32(0)
	for i := range size {
		n = n<<8 | uint32(b[at+i])
	}
	return n, api.OK
}

// sized: whether a number may have that many bytes.
func sized(size int) bool { return 1 <= size && size <= 4 }
