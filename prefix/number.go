package prefix

import "drawbridge/api"

const (
	asBits     = 0x80 // the flag of a text that stands as its bits
	lengthBits = 7    // the prefix of a text's length
)

// Behind a number's first byte each byte has seven of its bits, and a flag
// that another byte follows.
const (
	goesOn  = 0x80
	seven   = 0x7f
	maxMore = 5 // how many such bytes are read
)

// sized: whether a prefix may have so many bits.
func sized(bits int) bool { return 1 <= bits && bits <= 8 }

// ones: the bits of a prefix, each of them 1.
func ones(bits int) byte { return 0xff >> (8 - bits) }

// number: the one form of a number behind flags that have room for it.
func number(flags byte, bits int, n uint32) []byte {
	full := ones(bits)
	if n < uint32(full) {
		return []byte{flags | byte(n)}
	}
	b := []byte{flags | full}
	n -= uint32(full)
	for n > seven {
		b = append(b, goesOn|byte(n&seven))
		n >>= 7
	}
	return append(b, byte(n))
}

// takeMore: what a number is above its full prefix, and how many bytes say it. ErrShort, ErrRange.
func takeMore(b []byte) (int64, int, api.Errno) {
	n := int64(0)
	for i := range maxMore {
		if i == len(b) {
			return 0, 0, api.ErrShort
		}
		n |= int64(b[i]&seven) << (7 * i)
		if b[i]&goesOn == 0 {
			return n, i + 1, api.OK
		}
	}
	return 0, 0, api.ErrRange
}
