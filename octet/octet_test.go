package octet_test

import (
	"bytes"
	"fmt"
	"math"
	"strings"
	"testing"

	"drawbridge/api"
	"drawbridge/octet"
)

const (
	tokenSigns = "!#$%&'*+-.^_`|~"
	digits     = "0123456789"
	smalls     = "abcdefghijklmnopqrstuvwxyz"
	greats     = "ABCDEFGHIJKLMNOPQRSTUVWXYZ"
)

// everyByte gives each byte there is, as a text.
func everyByte(yield func(int, string) bool) {
	for c := range 256 {
		if !yield(c, string([]byte{byte(c)})) {
			return
		}
	}
}

// TestTokenBytes is of P1.1: each byte alone, and at each place beside others.
func TestTokenBytes(t *testing.T) {
	for c, s := range everyByte {
		want := strings.Contains(tokenSigns+digits+smalls+greats, s)
		for _, x := range []string{s, s + "a", "a" + s, "a" + s + "a"} {
			if got := octet.Token(x); got != want {
				t.Errorf("P1.1: byte %#x: Token(%q) = %v", c, x, got)
			}
		}
	}
}

// TestTokenTexts is of P1.1: texts as they come.
func TestTokenTexts(t *testing.T) {
	for s, want := range map[string]bool{
		"": false, "a-b": true, "a b": false, "GET": true, "x-1": true, ":path": false,
		"a,b": false, "a\"": false, "\u00e4": false, "a\n": false, "a\x00": false, " a": false,
		tokenSigns + digits + smalls + greats: true,
	} {
		if got := octet.Token(s); got != want {
			t.Errorf("P1.1: Token(%q) = %v", s, got)
		}
	}
}

// TestValueBytes is of P1.1: a blank may stand between others alone, and what is no value's byte nowhere.
func TestValueBytes(t *testing.T) {
	for c, s := range everyByte {
		blank := c == 0x20 || c == 0x09
		inside := blank || 0x21 <= c && c <= 0x7e || 0x80 <= c
		if got := octet.Value("a" + s + "a"); got != inside {
			t.Errorf("P1.1: byte %#x between others: %v", c, got)
		}
		for _, x := range []string{s, s + "a", "a" + s, s + s} {
			if got, want := octet.Value(x), inside && !blank; got != want {
				t.Errorf("P1.1: byte %#x: Value(%q) = %v", c, x, got)
			}
		}
	}
}

// TestValueTexts is of P1.1: texts as they come.
func TestValueTexts(t *testing.T) {
	for s, want := range map[string]bool{
		"": true, "a b": true, " a": false, "a ": false, "\ta": false, "a\t": false, "a \t b": true,
		" ": false, "a\r\nb": false, "a\x00": false, "\x7f": false, "\u00e4": true, "\xff\xfe": true,
	} {
		if got := octet.Value(s); got != want {
			t.Errorf("P1.1: Value(%q) = %v", s, got)
		}
	}
}

// TestLower is of P1.2: 26 letters change, no other byte does.
func TestLower(t *testing.T) {
	for c, s := range everyByte {
		want := s
		if i := strings.Index(greats, s); i >= 0 {
			want = smalls[i : i+1]
		}
		if got := octet.Lower(s); got != want {
			t.Errorf("P1.2: byte %#x: Lower(%q) = %q", c, s, got)
		}
	}
	for s, want := range map[string]string{
		"": "", "AZ[\xc4": "az[\xc4", "Content-Length": "content-length", "\u00c4\u212a": "\u00c4\u212a", "\xff\xfeA": "\xff\xfea",
	} {
		if got := octet.Lower(s); got != want {
			t.Errorf("P1.2: Lower(%q) = %q", s, got)
		}
	}
}

// TestSame is of P1.2: each pair of bytes, and texts of other lengths.
func TestSame(t *testing.T) {
	for _, a := range everyByte {
		for _, b := range everyByte {
			want := octet.Lower(a) == octet.Lower(b)
			if got := octet.Same("x"+a, "X"+b); got != want {
				t.Errorf("P1.2: Same(%q, %q) = %v", "x"+a, "X"+b, got)
			}
		}
	}
	for _, r := range []struct {
		a, b string
		want bool
	}{
		{"", "", true}, {"aBc", "AbC", true}, {"a", "", false}, {"", "a", false}, {"ab", "a", false}, {"a", "ab", false},
		{"ab", "ba", false}, {"k", "\u212a", false}, {"\u00e4", "\u00c4", false}, {"a ", "a", false},
	} {
		if got := octet.Same(r.a, r.b); got != r.want {
			t.Errorf("P1.2: Same(%q, %q) = %v", r.a, r.b, got)
		}
	}
}

// TestTrim is of P1.2: blanks go from the ends, and nothing else goes.
func TestTrim(t *testing.T) {
	for c, s := range everyByte {
		want := s + "a" + s
		if s == " " || s == "\t" {
			want = "a"
		}
		if got := octet.Trim(s + "a" + s); got != want {
			t.Errorf("P1.2: byte %#x: Trim = %q", c, got)
		}
	}
	for s, want := range map[string]string{
		"": "", " ": "", "\t \t": "", " \ta \tb\t ": "a \tb", "a": "a", "a ": "a", "\ta": "a", "\u00a0a\u00a0": "\u00a0a\u00a0", " \xff ": "\xff",
	} {
		if got := octet.Trim(s); got != want {
			t.Errorf("P1.2: Trim(%q) = %q", s, got)
		}
	}
}

// reading is what a text is read as.
type reading struct {
	s string
	n int64
	e api.Errno
}

func checkReadings(t *testing.T, name string, read func(string) (int64, api.Errno), rows []reading) {
	t.Helper()
	for _, r := range rows {
		if n, e := read(r.s); n != r.n || e != r.e {
			t.Errorf("P1.3: %s(%q) = %d, %d; not %d, %d", name, r.s, n, e, r.n, r.e)
		}
	}
}

// TestDecimal is of P1.3.
func TestDecimal(t *testing.T) {
	checkReadings(t, "Decimal", octet.Decimal, []reading{
		{"0", 0, 0}, {"000", 0, 0}, {"007", 7, 0}, {"1234567890", 1234567890, 0},
		{"1099511627775", 1<<40 - 1, 0}, {"1099511627776", 1 << 40, 0}, {strings.Repeat("0", 100) + "1099511627776", 1 << 40, 0},
		{"1099511627777", 0, api.ErrRange}, {"9223372036854775808", 0, api.ErrRange}, {"18446744073709551617", 0, api.ErrRange},
		{strings.Repeat("9", 1000), 0, api.ErrRange},
		{"", 0, api.ErrForm}, {"+1", 0, api.ErrForm}, {"-1", 0, api.ErrForm}, {" 1", 0, api.ErrForm}, {"1 ", 0, api.ErrForm},
		{"1_0", 0, api.ErrForm}, {"a", 0, api.ErrForm}, {"0x1", 0, api.ErrForm}, {"1.0", 0, api.ErrForm}, {"\u0661", 0, api.ErrForm},
		{strings.Repeat("9", 1000) + "x", 0, api.ErrForm},
	})
}

// TestHex is of P1.3.
func TestHex(t *testing.T) {
	checkReadings(t, "Hex", octet.Hex, []reading{
		{"0", 0, 0}, {"fF", 255, 0}, {"00a", 10, 0}, {"0123456789", 0x123456789, 0}, {"abcdef", 0xabcdef, 0}, {"ABCDEF", 0xabcdef, 0},
		{"ffffffffff", 1<<40 - 1, 0}, {"10000000000", 1 << 40, 0}, {strings.Repeat("0", 100) + "10000000000", 1 << 40, 0},
		{"10000000001", 0, api.ErrRange}, {"8000000000000000", 0, api.ErrRange}, {"10000000000000001", 0, api.ErrRange},
		{strings.Repeat("f", 1000), 0, api.ErrRange},
		{"", 0, api.ErrForm}, {"+1", 0, api.ErrForm}, {"-1", 0, api.ErrForm}, {"g", 0, api.ErrForm}, {"G", 0, api.ErrForm},
		{"0x1", 0, api.ErrForm}, {" f", 0, api.ErrForm}, {"f ", 0, api.ErrForm}, {strings.Repeat("f", 1000) + "g", 0, api.ErrForm},
	})
}

// TestDigitBytes is of P1.3: which byte is a digit of which base, and of what worth.
func TestDigitBytes(t *testing.T) {
	for c, s := range everyByte {
		for _, b := range []struct {
			name   string
			read   func(string) (int64, api.Errno)
			digits string
		}{{"Decimal", octet.Decimal, digits}, {"Hex", octet.Hex, digits + "abcdef"}} {
			n, e := int64(0), api.ErrForm
			if i := strings.Index(b.digits, strings.ToLower(s)); c < 0x80 && i >= 0 {
				n, e = int64(i), api.OK
			}
			checkReadings(t, b.name, b.read, []reading{{s, n, e}})
		}
	}
}

// TestDigits is of P1.4: against the library's own writing of numbers.
func TestDigits(t *testing.T) {
	ns := []int64{0, 1, 9, 10, 15, 16, 99, 100, 255, 256, 4095, 1<<31 - 1, api.Greatest, api.Greatest + 1, math.MaxInt64}
	for _, n := range ns {
		if got := octet.Digits(n); got != fmt.Sprintf("%d", n) {
			t.Errorf("P1.4: Digits(%d) = %q", n, got)
		}
		if got := octet.HexDigits(n); got != fmt.Sprintf("%x", n) {
			t.Errorf("P1.4: HexDigits(%d) = %q", n, got)
		}
	}
	for _, n := range []int64{-1, -10, math.MinInt64} {
		if octet.Digits(n) != "" || octet.HexDigits(n) != "" {
			t.Errorf("P1.4: %d is below 0", n)
		}
	}
}

// TestPut is of P1.5.
func TestPut(t *testing.T) {
	for _, r := range []struct {
		n    uint32
		size int
		want []byte
	}{
		{258, 3, []byte{0, 1, 2}}, {0x01020304, 4, []byte{1, 2, 3, 4}}, {0x01020304, 3, []byte{2, 3, 4}},
		{0x01020304, 2, []byte{3, 4}}, {0x01020304, 1, []byte{4}}, {0, 4, []byte{0, 0, 0, 0}}, {math.MaxUint32, 4, []byte{255, 255, 255, 255}},
		{1, 0, nil}, {1, 5, nil}, {1, -1, nil}, {1, math.MaxInt, nil}, {1, math.MinInt, nil},
	} {
		if got := octet.Put(r.n, r.size); !bytes.Equal(got, r.want) {
			t.Errorf("P1.5: Put(%#x, %d) = %v", r.n, r.size, got)
		}
	}
}

// TestTake is of P1.5: ErrArg goes ahead of ErrShort.
func TestTake(t *testing.T) {
	b := []byte{0, 1, 2, 3, 0xff}
	for _, r := range []struct {
		b        []byte
		at, size int
		n        uint32
		e        api.Errno
	}{
		{b[:3], 1, 2, 258, 0}, {b, 0, 4, 0x010203, 0}, {b, 1, 4, 0x010203ff, 0}, {b, 4, 1, 0xff, 0}, {b, 3, 2, 0x3ff, 0}, {b, 2, 3, 0x0203ff, 0},
		{b[:3], 2, 2, 0, api.ErrShort}, {b, 2, 4, 0, api.ErrShort}, {b, 5, 1, 0, api.ErrShort}, {b, 6, 1, 0, api.ErrShort}, {nil, 0, 1, 0, api.ErrShort},
		{b, math.MaxInt, 4, 0, api.ErrShort}, {b, math.MaxInt - 3, 4, 0, api.ErrShort},
		{b, 0, 0, 0, api.ErrArg}, {b, 0, 5, 0, api.ErrArg}, {b, 0, -1, 0, api.ErrArg}, {b, -1, 1, 0, api.ErrArg}, {b, math.MinInt, 1, 0, api.ErrArg},
		{b, 0, math.MinInt, 0, api.ErrArg}, {b, 0, math.MaxInt, 0, api.ErrArg}, {nil, -1, 1, 0, api.ErrArg}, {nil, 9, 9, 0, api.ErrArg},
	} {
		if n, e := octet.Take(r.b, r.at, r.size); n != r.n || e != r.e {
			t.Errorf("P1.5: Take(%v, %d, %d) = %d, %d; not %d, %d", r.b, r.at, r.size, n, e, r.n, r.e)
		}
	}
	if !bytes.Equal(b, []byte{0, 1, 2, 3, 0xff}) {
		t.Error("P1.5: Take changed what it was handed")
	}
}

// TestThereAndBack is of P1.6: numbers written and read again.
func TestThereAndBack(t *testing.T) {
	check := func(n int64) {
		if m, e := octet.Decimal(octet.Digits(n)); m != n || e != api.OK {
			t.Errorf("P1.6: Decimal(Digits(%d)) = %d, %d", n, m, e)
		}
		if m, e := octet.Hex(octet.HexDigits(n)); m != n || e != api.OK {
			t.Errorf("P1.6: Hex(HexDigits(%d)) = %d, %d", n, m, e)
		}
	}
	for n := range int64(5000) {
		check(n)
		check(api.Greatest - n)
	}
	for n := int64(1); n < api.Greatest; n = n*3 + 1 {
		check(n)
	}
}

// TestPutTake is of P1.6: Take undoes Put, wherever the bytes stand.
func TestPutTake(t *testing.T) {
	for size := 1; size <= 4; size++ {
		for n := uint64(1); n <= math.MaxUint32; n = n*5 + 3 {
			b := append([]byte{7, 7}, octet.Put(uint32(n), size)...)
			b = append(b, 9)
			want := uint32(n & (1<<(8*size) - 1))
			if got, e := octet.Take(b, 2, size); got != want || e != api.OK {
				t.Errorf("P1.6: Take of Put(%#x, %d) = %#x, %d", n, size, got, e)
			}
		}
	}
}
