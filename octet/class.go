package octet

// What a byte may stand in.
const (
	inValue = 1 << iota // a value
	inToken             // a token, and so a value
)

// class: all that a byte may stand in.
func class(c byte) int {
	in := 0
	switch {
	case '0' <= c && c <= '9', 'a' <= small(c) && small(c) <= 'z', sign(c):
		in |= inToken
		fallthrough
	case '!' <= c && c <= '~', 0x80 <= c, blank(c):
		in |= inValue
	}
	return in
}

// sign: whether a byte is one of a token's that is neither a digit nor a letter.
func sign(c byte) bool {
	switch c {
	case '!', '#', '$', '%', '&', '\'', '*', '+', '-', '.', '^', '_', '`', '|', '~':
		return true
	}
	return false
}

// blank: whether a byte is a space or a tab.
func blank(c byte) bool { return c == ' ' || c == '\t' }

// each: whether all bytes of a text may stand there.
func each(s string, there int) bool {
	for i := range len(s) {
		if class(s[i])&there == 0 {
			return false
		}
	}
	return true
}

// small: a byte, or the small letter of a great one.
func small(c byte) byte {
	if 'A' <= c && c <= 'Z' {
		return c - 'A' + 'a'
	}
	return c
}
