package prefix_test

import (
	"math/big"
	"strconv"
	"strings"
)

// oneForm: a number's one form as the chapter says it, made of texts of 0 and 1.
// The flags are their bits alone: 8 - bits of them.
func oneForm(flags string, bits int, n uint32) []byte {
	if plain := strconv.FormatUint(uint64(n), 2); len(plain) <= bits && plain != strings.Repeat("1", bits) {
		return []byte{byteOf(flags + strings.Repeat("0", bits-len(plain)) + plain)}
	}
	b := []byte{byteOf(flags + strings.Repeat("1", bits))}
	above := strconv.FormatUint(uint64(n)-(1<<bits-1), 2)
	for len(above) > 7 {
		b = append(b, byteOf("1"+above[len(above)-7:]))
		above = above[:len(above)-7]
	}
	return append(b, byteOf(above))
}

// byteOf: the byte whose bits are said.
func byteOf(bits string) byte {
	n, err := strconv.ParseUint(bits, 2, 8)
	if err != nil {
		panic(err)
	}
	return byte(n)
}

// What stands at the beginning of bytes.
const (
	isNumber = iota
	isShort
	isTooGreat
)

// readNumber: what number stands at the beginning of bytes, however great it is, how many bytes it takes, and which of these it is.
func readNumber(b []byte, bits int) (int64, int, int) {
	if len(b) == 0 {
		return 0, 0, isShort
	}
	full := 1<<bits - 1
	n := big.NewInt(int64(int(b[0]) % (full + 1)))
	size := 1
	for on := n.Int64() == int64(full); on; size++ {
		if size == 6 {
			return 0, 0, isTooGreat
		}
		if size == len(b) {
			return 0, 0, isShort
		}
		part := big.NewInt(int64(b[size] % 128))
		n.Add(n, part.Lsh(part, uint(7*(size-1))))
		on = b[size] >= 128
	}
	if n.Cmp(big.NewInt(1<<31-1)) > 0 {
		return 0, 0, isTooGreat
	}
	return n.Int64(), size, isNumber
}
