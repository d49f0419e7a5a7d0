package huff_test

import (
	"bytes"
	"math"
	"strconv"
	"strings"
	"testing"

	"drawbridge/api"
	"drawbridge/huff"
)

// TestCode is of P2.1: each symbol there is.
func TestCode(t *testing.T) {
	if len(codes) != end+1 {
		t.Fatalf("%d symbols", len(codes))
	}
	for symbol, bits := range codes {
		want, err := strconv.ParseUint(bits, 2, 32)
		if err != nil {
			t.Fatal(err)
		}
		if code, n := huff.Code(symbol); code != uint32(want) || n != len(bits) {
			t.Errorf("P2.1: Code(%d) = %#x, %d; not %#x, %d", symbol, code, n, want, len(bits))
		}
	}
}

// TestCodeExamples is of P2.1: codes as RFC 7541 writes them.
func TestCodeExamples(t *testing.T) {
	for _, r := range []struct {
		symbol int
		code   uint32
		n      int
	}{
		{'0', 0, 5}, {'t', 0x9, 5}, {' ', 0x14, 6}, {'u', 0x2d, 6}, {':', 0x5c, 7}, {'z', 0x7b, 7}, {'&', 0xf8, 8}, {'Z', 0xfd, 8},
		{'!', 0x3f8, 10}, {'?', 0x3fc, 10}, {'|', 0x7fc, 11}, {'>', 0xffb, 12}, {0, 0x1ff8, 13}, {'~', 0x1ffd, 13}, {'}', 0x3ffd, 14},
		{'<', 0x7ffc, 15}, {'\\', 0x7fff0, 19}, {128, 0xfffe6, 20}, {153, 0x1fffdc, 21}, {129, 0x3fffd2, 22}, {1, 0x7fffd8, 23},
		{9, 0xffffea, 24}, {199, 0x1ffffec, 25}, {255, 0x3ffffee, 26}, {254, 0x7fffff0, 27}, {249, 0xffffffe, 28}, {22, 0x3ffffffe, 30},
		{end, 0x3fffffff, 30},
	} {
		if code, n := huff.Code(r.symbol); code != r.code || n != r.n {
			t.Errorf("P2.1: Code(%d) = %#x, %d; not %#x, %d", r.symbol, code, n, r.code, r.n)
		}
	}
}

// TestNoSuchSymbol is of P2.1.
func TestNoSuchSymbol(t *testing.T) {
	for _, symbol := range []int{-1, -256, 257, 258, 304, 512, 1 << 16, 1<<32 + 48, math.MaxInt, math.MinInt, math.MinInt + 48} {
		if code, n := huff.Code(symbol); code != 0 || n != 0 {
			t.Errorf("P2.1: Code(%d) = %#x, %d", symbol, code, n)
		}
	}
}

// texts are such as come, and such as don't.
func texts() []string {
	every := make([]byte, 256)
	for c := range every {
		every[c] = byte(c)
	}
	long := make([]byte, 5000)
	for i := range long {
		long[i] = byte(i * i >> 3)
	}
	list := []string{
		"", "0", "a", "aa", "aaa", "www.example.com", "no-cache", "custom-key", "custom-value", "302", "private",
		"Mon, 21 Oct 2013 20:13:21 GMT", "https://www.example.com", "foo=ASDJKHQKBZXOQWEOPIUAXQWEOIU; max-age=3600; version=1",
		"\x00", "\x00\x00", "\n\n\n\n", "\xff\xfe\xfd", "\u00e4\u20ac", string(every), string(long),
		strings.Repeat("0", 5000), strings.Repeat("\x16", 5000),
	}
	for c := range 256 {
		// Up to seven bytes of five bits ahead: the code begins at each of a byte's bits.
		for ahead := range 8 {
			list = append(list, strings.Repeat("2", ahead)+string([]byte{byte(c)}))
		}
		list = append(list, string([]byte{byte(c), byte(c * 7), byte(255 - c)}))
	}
	return list
}

// TestEncode is of P2.2: against bits written one by one.
func TestEncode(t *testing.T) {
	for _, s := range texts() {
		want := pack(bitsOfText(s))
		if got := huff.Encode(s); !bytes.Equal(got, want) {
			t.Errorf("P2.2: Encode(%q) = %x, not %x", s, got, want)
		}
		if got := huff.Size(s); got != len(want) {
			t.Errorf("P2.2: Size(%q) = %d, not %d", s, got, len(want))
		}
	}
}

// TestEncodeExamples is of P2.2: bytes as RFC 7541 writes them.
func TestEncodeExamples(t *testing.T) {
	for s, want := range map[string]string{
		"": "", "0": "\x07", "www.example.com": "\xf1\xe3\xc2\xe5\xf2\x3a\x6b\xa0\xab\x90\xf4\xff", "no-cache": "\xa8\xeb\x10\x64\x9c\xbf",
		"custom-value": "\x25\xa8\x49\xe9\x5b\xb8\xe8\xb4\xbf", "302": "\x64\x02", "private": "\xae\xc3\x77\x1a\x4b",
		"Mon, 21 Oct 2013 20:13:21 GMT": "\xd0\x7a\xbe\x94\x10\x54\xd4\x44\xa8\x20\x05\x95\x04\x0b\x81\x66\xe0\x82\xa6\x2d\x1b\xff",
	} {
		if got := huff.Encode(s); string(got) != want || huff.Size(s) != len(want) {
			t.Errorf("P2.2: Encode(%q) = %x, Size = %d; not %x", s, got, huff.Size(s), want)
		}
	}
}

// TestEncodeIsNew is of P2.2: what is answered shares nothing.
func TestEncodeIsNew(t *testing.T) {
	a, b := huff.Encode("www.example.com"), huff.Encode("www.example.com")
	for i := range a {
		a[i] = 0
	}
	if !bytes.Equal(b, pack(bitsOfText("www.example.com"))) {
		t.Errorf("P2.2: two answers share memory: %x", b)
	}
}

// checkDecode holds an answer against the text that is asked for.
func checkDecode(t *testing.T, b []byte, want string, ok bool) {
	t.Helper()
	e := api.OK
	if !ok {
		want, e = "", api.ErrForm
	}
	if got, errno := huff.Decode(b); got != want || errno != e {
		t.Errorf("P2.3: Decode(%x) = %q, %d; not %q, %d", b, got, errno, want, e)
	}
}

// TestDecode is of P2.3: what is decoded is what the codes say.
func TestDecode(t *testing.T) {
	checkDecode(t, nil, "", true)
	for _, s := range texts() {
		checkDecode(t, pack(bitsOfText(s)), s, true)
	}
}

// TestDecodeTheEnd is of P2.3: its code may stand nowhere, neither alone nor at any bit of a byte, nor ahead of more.
func TestDecodeTheEnd(t *testing.T) {
	for ahead := range 8 {
		bits := bitsOfText(strings.Repeat("2", ahead)) + codes[end]
		checkDecode(t, pack(bits), "", false)
		checkDecode(t, pack(bits+bitsOfText("a")), "", false)
		checkDecode(t, pack(bits+bitsOfText("hello")), "", false)
	}
	for c := range 256 {
		checkDecode(t, pack(bitsOf(c, end, c)), "", false)
	}
}

// TestDecodeOnesBehind is of P2.3: to seven ones may stand behind the last code; eight or more may not.
func TestDecodeOnesBehind(t *testing.T) {
	checkDecode(t, []byte{0xff}, "", false)
	for c := range 256 {
		for ahead := range 8 {
			s := strings.Repeat("2", ahead) + string([]byte{byte(c)})
			b := pack(bitsOfText(s))
			checkDecode(t, b, s, true)
			for more := 1; more <= 4; more++ {
				b = append(b, 0xff)
				checkDecode(t, b, "", false)
			}
		}
	}
}

// TestDecodeZeroBehind is of P2.3: of the bits behind the last code none is 0, wherever it stands.
func TestDecodeZeroBehind(t *testing.T) {
	for _, s := range texts() {
		bits := bitsOfText(s)
		room := (8 - len(bits)%8) % 8
		for left := range 1 << room {
			if room == 0 || left == 1<<room-1 {
				continue
			}
			tail := strconv.FormatInt(int64(1<<room|left), 2)[1:]
			b := packWhole(bits + tail)
			// Such bits may be a short code, and then there is a text.
			want, ok := unpack(b)
			checkDecode(t, b, want, ok)
		}
	}
	for _, b := range []string{"\x00", "\x06", "\x05", "\x03", "\x07\x00", "\xf8", "\xfe", "\xff\xfe"} {
		want, ok := unpack([]byte(b))
		checkDecode(t, []byte(b), want, ok)
	}
	for _, b := range []string{"\x00", "\x06", "\x05", "\x03", "\xfe", "\xff\xfe", "\xff\xff\xff\xfc", "\xff\xff\xff\xff"} {
		checkDecode(t, []byte(b), "", false)
	}
}

// TestDecodeCutCode is of P2.3: a code without its last bits is none, unless ones alone are left.
func TestDecodeCutCode(t *testing.T) {
	for c := range 256 {
		for ahead := range 8 {
			bits := bitsOfText(strings.Repeat("2", ahead)) + codes[c]
			for whole := len(bits) / 8; whole >= 0; whole-- {
				b := packWhole(bits[:8*whole])
				want, ok := unpack(b)
				checkDecode(t, b, want, ok)
			}
		}
	}
}

// TestDecodeAll is of P2.3 and P2.4: all that is of one byte, or two; where there is a text, its bits are these bytes.
func TestDecodeAll(t *testing.T) {
	check := func(b []byte) {
		want, ok := unpack(b)
		checkDecode(t, b, want, ok)
		if ok && !bytes.Equal(huff.Encode(want), b) {
			t.Errorf("P2.4: Decode(%x) = %q, whose bits are %x", b, want, huff.Encode(want))
		}
	}
	for first := range 256 {
		check([]byte{byte(first)})
		for second := range 256 {
			check([]byte{byte(first), byte(second)})
		}
	}
}

// TestThereAndBack is of P2.4: Decode undoes Encode.
func TestThereAndBack(t *testing.T) {
	for _, s := range texts() {
		if got, e := huff.Decode(huff.Encode(s)); got != s || e != api.OK {
			t.Errorf("P2.4: Decode(Encode(%q)) = %q, %d", s, got, e)
		}
	}
}

// TestNoOthers is of P2.4: bytes that differ in a bit, or are one more or less, aren't decoded as the same text.
func TestNoOthers(t *testing.T) {
	for _, s := range texts() {
		if len(s) > 300 {
			continue
		}
		b := huff.Encode(s)
		others := [][]byte{append(bytes.Clone(b), 0xff), append(bytes.Clone(b), 0), append([]byte{0xff}, b...)}
		if len(b) > 0 {
			others = append(others, b[:len(b)-1], b[1:])
		}
		for i := range 8 * len(b) {
			other := bytes.Clone(b)
			other[i/8] ^= 1 << (i % 8)
			others = append(others, other)
		}
		for _, other := range others {
			if got, e := huff.Decode(other); e == api.OK && got == s {
				t.Errorf("P2.4: Decode(%x) = %q, as of %x", other, s, b)
			}
		}
	}
}

// TestDecodeLeavesBytes is of P2.3: what is handed in stays, and what is answered doesn't hang on it any more.
func TestDecodeLeavesBytes(t *testing.T) {
	all := pack(bitsOfText("www.example.com"))
	b := append(bytes.Clone(all), 1, 2, 3)[:len(all)]
	s, e := huff.Decode(b)
	if !bytes.Equal(b[:len(all)+3], append(bytes.Clone(all), 1, 2, 3)) {
		t.Errorf("P2.3: Decode changed what it was handed: %x", b[:len(all)+3])
	}
	clear(b)
	if s != "www.example.com" || e != api.OK {
		t.Errorf("P2.3: Decode = %q, %d", s, e)
	}
}
