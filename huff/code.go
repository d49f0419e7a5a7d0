package huff

import "strings"

// end is the symbol that is no byte. Its code is the last one, so that its
// number is its place, too.
const end = 256

// longest is the length of the longest codes.
const longest = 30

// order: the bytes in the order of their codes. A text, for a text may be a
// constant, and bytes are sought in it.
const order = "012aceiost" + // 5 bits
	" %-./3456789=A_bdfghlmnpru" + // 6
	":BCDEFGHIJKLMNOPQRSTUVWYjkqvwxyz" + // 7
	"&*,;XZ" + // 8
	"!\"()?" + // 10
	"'+|" + // 11
	"#>" + // 12
	"\x00$@[]~" + // 13
	"^}" + // 14
	"<`{" + // 15
	"\\\xc3\xd0" + // 19
	"\x80\x82\x83\xa2\xb8\xc2\xe0\xe2" + // 20
	"\x99\xa1\xa7\xac\xb0\xb1\xb3\xd1\xd8\xd9\xe3\xe5\xe6" + // 21
	"\x81\x84\x85\x86\x88\x92\x9a\x9c\xa0\xa3\xa4\xa9\xaa\xad\xb2\xb5\xb9\xba\xbb\xbd\xbe\xc4\xc6\xe4\xe8\xe9" + // 22
	"\x01\x87\x89\x8a\x8b\x8c\x8d\x8f\x93\x95\x96\x97\x98\x9b\x9d\x9e\xa5\xa6\xa8\xae\xaf\xb4\xb6\xb7\xbc\xbf\xc5\xe7\xef" + // 23
	"\x09\x8e\x90\x91\x94\x9f\xab\xce\xd7\xe1\xec\xed" + // 24
	"\xc7\xcf\xea\xeb" + // 25
	"\xc0\xc1\xc8\xc9\xca\xcd\xd2\xd5\xda\xdb\xee\xf0\xf2\xf3\xff" + // 26
	"\xcb\xcc\xd3\xd4\xd6\xdd\xde\xdf\xf1\xf4\xf5\xf6\xf7\xf8\xfa\xfb\xfc\xfd\xfe" + // 27
	"\x02\x03\x04\x05\x06\x07\x08\x0b\x0c\x0e\x0f\x10\x11\x12\x13\x14\x15\x17\x18\x19\x1a\x1b\x1c\x1d\x1e\x1f\x7f\xdc\xf9" + // 28
	"\x0a\x0d\x16" // 30, and the end

// group is the codes of one length: numbers in a row.
type group struct {
	count int    // how many there are
	code  uint32 // the first one
	place int    // the first one's place in order
}

// groups: the codes of each length.
var groups = [longest + 1]group{
	5:  {10, 0x0, 0},
	6:  {26, 0x14, 10},
	7:  {32, 0x5c, 36},
	8:  {6, 0xf8, 68},
	10: {5, 0x3f8, 74},
	11: {3, 0x7fa, 79},
	12: {2, 0xffa, 82},
	13: {6, 0x1ff8, 84},
	14: {2, 0x3ffc, 90},
	15: {3, 0x7ffc, 92},
	19: {3, 0x7fff0, 95},
	20: {8, 0xfffe6, 98},
	21: {13, 0x1fffdc, 106},
	22: {26, 0x3fffd2, 119},
	23: {29, 0x7fffd8, 145},
	24: {12, 0xffffea, 174},
	25: {4, 0x1ffffec, 186},
	26: {15, 0x3ffffe0, 190},
	27: {19, 0x7ffffde, 205},
	28: {29, 0xfffffe2, 224},
	30: {4, 0x3ffffffc, 253},
}

// placeOf: a symbol's place in order.
func placeOf(symbol int) int {
	if symbol == end {
		return end
	}
	return strings.IndexByte(order, byte(symbol))
}

// codeAt: the code of the symbol at a place, and its length.
func codeAt(place int) (uint32, int) {
	for n := range len(groups) {
		g := groups[n]
		if place < g.place+g.count {
			return g.code + uint32(place-g.place), n
		}
	}
	return 0, 0
}

// placeOfCode: the place of the symbol whose code n bits are, and whether there is one.
func placeOfCode(bits uint32, n int) (int, bool) {
	g := groups[n]
	k := int(bits) - int(g.code)
	if k < 0 || k >= g.count {
		return 0, false
	}
	return g.place + k, true
}
