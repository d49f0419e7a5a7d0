package huff_test

import (
	"slices"
	"strconv"
	"strings"
)

// lengths are the chapter's, a line a row of its table, and behind them the end's.
const lengths = `
13 23 28 28 28 28 28 28 28 24 30 28 28 30 28 28
28 28 28 28 28 28 30 28 28 28 28 28 28 28 28 28
6 10 10 12 13 6 8 11 10 10 8 11 8 6 6 6
5 5 5 6 6 6 6 6 6 6 7 8 15 6 12 10
13 6 7 7 7 7 7 7 7 7 7 7 7 7 7 7
7 7 7 7 7 7 7 7 8 7 8 13 19 13 14 6
15 5 6 5 6 5 6 6 6 5 7 7 6 6 6 5
6 7 6 5 5 6 7 7 7 7 7 15 11 14 13 28
20 22 20 20 22 22 22 23 22 23 23 23 23 23 24 23
24 24 22 23 24 23 23 23 23 21 22 23 22 23 23 24
22 21 20 22 22 23 23 21 23 22 22 24 21 22 23 23
21 21 22 21 23 22 23 23 20 22 22 22 23 22 22 23
26 26 20 19 22 23 22 25 26 26 26 27 27 26 24 25
19 21 26 27 27 26 27 24 21 21 26 26 28 27 27 27
20 24 20 21 22 21 21 23 22 22 25 25 24 24 26 23
26 27 26 26 27 27 27 27 27 28 27 27 27 27 27 26
30`

// end is the symbol that is no byte.
const end = 256

// codes are all symbols' codes as texts of 0 and 1, made as the chapter says it.
var codes = makeCodes()

func makeCodes() []string {
	var sizes, order []int
	for symbol, text := range strings.Fields(lengths) {
		size, err := strconv.Atoi(text)
		if err != nil {
			panic(err)
		}
		sizes, order = append(sizes, size), append(order, symbol)
	}
	slices.SortStableFunc(order, func(a, b int) int { return sizes[a] - sizes[b] })
	made := make([]string, len(sizes))
	code := strings.Repeat("0", sizes[order[0]])
	for i, symbol := range order {
		if i > 0 {
			code = oneMore(code) + strings.Repeat("0", sizes[symbol]-len(code))
		}
		made[symbol] = code
	}
	return made
}

// symbols are the symbols by their codes.
var symbols = makeSymbols()

func makeSymbols() map[string]int {
	made := map[string]int{}
	for symbol, code := range codes {
		made[code] = symbol
	}
	return made
}

// oneMore: the number that is one more, in as many bits.
func oneMore(bits string) string {
	i := strings.LastIndexByte(bits, '0')
	return bits[:i] + "1" + strings.Repeat("0", len(bits)-i-1)
}

// bitsOf: the codes of symbols, one behind the other.
func bitsOf(symbols ...int) string {
	var b strings.Builder
	for _, symbol := range symbols {
		b.WriteString(codes[symbol])
	}
	return b.String()
}

// bitsOfText: the codes of a text's bytes.
func bitsOfText(s string) string {
	var symbols []int
	for _, c := range []byte(s) {
		symbols = append(symbols, int(c))
	}
	return bitsOf(symbols...)
}

// pack: bits as bytes, with ones behind them till the last byte is whole.
func pack(bits string) []byte {
	for len(bits)%8 != 0 {
		bits += "1"
	}
	return packWhole(bits)
}

// packWhole: bits that make whole bytes, as bytes.
func packWhole(bits string) []byte {
	var b []byte
	for ; bits != ""; bits = bits[8:] {
		n, err := strconv.ParseUint(bits[:8], 2, 8)
		if err != nil {
			panic(err)
		}
		b = append(b, byte(n))
	}
	return b
}

// unpack: the text whose bits b is, and whether there is one; told bit by bit.
func unpack(b []byte) (string, bool) {
	text, left := "", ""
	for _, c := range b {
		for i := 7; i >= 0; i-- {
			left += strconv.Itoa(int(c >> i & 1))
			symbol, ok := symbols[left]
			switch {
			case ok && symbol == end:
				return "", false
			case ok:
				text, left = text+string([]byte{byte(symbol)}), ""
			}
		}
	}
	if len(left) >= 8 || strings.Contains(left, "0") {
		return "", false
	}
	return text, true
}
