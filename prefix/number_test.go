package prefix_test

import (
	"bytes"
	"fmt"
	"math"
	"strings"
	"testing"

	"drawbridge/api"
	"drawbridge/prefix"
)

// numbers are such as lie about the places where a number's form changes, and others.
func numbers(bits int) []uint32 {
	full := uint32(1)<<bits - 1
	list := []uint32{0, 1, 10, 42, 127, 128, 255, 256, 1337, 4096, 65535, 65536, math.MaxInt32 - 1, math.MaxInt32, 1 << 31, math.MaxUint32 - 1, math.MaxUint32}
	for _, above := range []uint32{0, 1, 1 << 7, 1 << 14, 1 << 21, 1 << 28} {
		list = append(list, full+above-1, full+above, full+above+1)
	}
	for n := uint64(1); n <= math.MaxUint32; n = n*7 + 3 {
		list = append(list, uint32(n))
	}
	return list
}

// flagsOf gives all flags that go with a prefix: as a byte, and as bits.
func flagsOf(bits int) func(yield func(byte, string) bool) {
	return func(yield func(byte, string) bool) {
		for f := range 1 << (8 - bits) {
			text := ""
			if bits < 8 {
				text = fmt.Sprintf("%0*b", 8-bits, f)
			}
			if !yield(byte(f<<bits), text) {
				return
			}
		}
	}
}

// TestPutInt is of P3.1: each prefix, with all its flags.
func TestPutInt(t *testing.T) {
	for bits := 1; bits <= 8; bits++ {
		for flags, text := range flagsOf(bits) {
			for _, n := range numbers(bits) {
				want := oneForm(text, bits, n)
				if got, e := prefix.PutInt(flags, bits, n); !bytes.Equal(got, want) || e != api.OK {
					t.Errorf("P3.1: PutInt(%#x, %d, %d) = %x, %d; not %x", flags, bits, n, got, e, want)
				}
			}
		}
	}
}

// TestPutIntExamples is of P3.1: bytes as the chapter and RFC 7541 write them.
func TestPutIntExamples(t *testing.T) {
	for _, r := range []struct {
		flags byte
		bits  int
		n     uint32
		want  string
	}{
		{0, 5, 10, "\x0a"}, {0, 5, 1337, "\x1f\x9a\x0a"}, {0, 8, 42, "\x2a"}, {0xa0, 5, 10, "\xaa"}, {0xe0, 5, 1337, "\xff\x9a\x0a"},
		{0, 5, 30, "\x1e"}, {0, 5, 31, "\x1f\x00"}, {0, 5, 32, "\x1f\x01"}, {0, 5, 158, "\x1f\x7f"}, {0, 5, 159, "\x1f\x80\x01"},
		{0, 1, 0, "\x00"}, {0, 1, 1, "\x01\x00"}, {0xfe, 1, 0, "\xfe"}, {0xfe, 1, 1, "\xff\x00"}, {0, 8, 254, "\xfe"}, {0, 8, 255, "\xff\x00"},
		{0x80, 7, 127, "\xff\x00"}, {0, 7, 4096, "\x7f\x81\x1f"}, {0, 8, math.MaxInt32, "\xff\x80\xfe\xff\xff\x07"}, {0, 8, math.MaxUint32, "\xff\x80\xfe\xff\xff\x0f"},
	} {
		if got, e := prefix.PutInt(r.flags, r.bits, r.n); string(got) != r.want || e != api.OK {
			t.Errorf("P3.1: PutInt(%#x, %d, %d) = %x, %d; not %x", r.flags, r.bits, r.n, got, e, r.want)
		}
	}
}

// wrongBits are prefixes that there aren't.
func wrongBits() []int {
	return []int{0, 9, 10, 16, 64, -1, -8, 1 << 8, 1<<8 + 5, 1<<32 + 5, math.MaxInt, math.MinInt, math.MinInt + 5}
}

// TestPutIntWrong is of P3.1: prefixes that there aren't, and flags where the number stands.
func TestPutIntWrong(t *testing.T) {
	check := func(flags byte, bits int) {
		for _, n := range []uint32{0, 1, 1337, math.MaxUint32} {
			if got, e := prefix.PutInt(flags, bits, n); len(got) != 0 || e != api.ErrArg {
				t.Errorf("P3.1: PutInt(%#x, %d, %d) = %x, %d", flags, bits, n, got, e)
			}
		}
	}
	for flags := range 256 {
		for _, bits := range wrongBits() {
			check(byte(flags), bits)
		}
		for bits := 1; bits <= 8; bits++ {
			if flags%(1<<bits) != 0 {
				check(byte(flags), bits)
			}
		}
	}
}

// TestPutIntIsNew is of P3.1: what is answered shares nothing.
func TestPutIntIsNew(t *testing.T) {
	a, _ := prefix.PutInt(0, 5, 1337)
	b, _ := prefix.PutInt(0, 5, 1337)
	clear(a[:cap(a)])
	if string(b) != "\x1f\x9a\x0a" {
		t.Errorf("P3.1: two answers share memory: %x", b)
	}
}

// checkTakeInt holds an answer against what is asked for.
func checkTakeInt(t *testing.T, b []byte, bits int, n int64, size int, e api.Errno) {
	t.Helper()
	if m, k, errno := prefix.TakeInt(b, bits); m != n || k != size || errno != e {
		t.Errorf("P3.2: TakeInt(%x, %d) = %d, %d, %d; not %d, %d, %d", b, bits, m, k, errno, n, size, e)
	}
}

// TestTakeInt is of P3.2: numbers behind all flags, and ahead of other bytes.
func TestTakeInt(t *testing.T) {
	for bits := 1; bits <= 8; bits++ {
		for _, text := range flagsOf(bits) {
			for _, n := range numbers(bits) {
				b := oneForm(text, bits, n)
				size, want, e := len(b), int64(n), api.OK
				if n > math.MaxInt32 {
					size, want, e = 0, 0, api.ErrRange
				}
				for _, behind := range []string{"", "\x00", "\x7f", "\x80", "\xff\xff\xff\xff\xff\xff"} {
					checkTakeInt(t, append(bytes.Clone(b), behind...), bits, want, size, e)
				}
			}
		}
	}
}

// TestTakeIntExamples is of P3.2, its edges among them.
func TestTakeIntExamples(t *testing.T) {
	for _, r := range []struct {
		b    string
		bits int
		n    int64
		size int
		e    api.Errno
	}{
		{"\x0a", 5, 10, 1, 0}, {"\x1f\x9a\x0a", 5, 1337, 3, 0}, {"\xff\x9a\x0a", 5, 1337, 3, 0}, {"\x2a", 8, 42, 1, 0}, {"\x1e\xff", 5, 30, 1, 0}, {"\x1f\x00", 5, 31, 2, 0},
		// Not in their one form.
		{"\x1f\x80\x00", 5, 31, 3, 0}, {"\x1f\x80\x80\x80\x80\x00", 5, 31, 6, 0}, {"\x1f\x9a\x8a\x80\x00", 5, 1337, 5, 0}, {"\xff\x80\x80\x80\x80\x00\x01", 8, 255, 6, 0},
		// The greatest one, and one more.
		{"\xff\x80\xfe\xff\xff\x07", 8, math.MaxInt32, 6, 0}, {"\xff\x81\xfe\xff\xff\x07", 8, 0, 0, api.ErrRange},
		{"\x01\xfe\xff\xff\xff\x07", 1, math.MaxInt32, 6, 0}, {"\x01\xff\xff\xff\xff\x07", 1, 0, 0, api.ErrRange},
		{"\x7f\x80\xff\xff\xff\x07", 7, math.MaxInt32, 6, 0}, {"\x7f\x81\xff\xff\xff\x07", 7, 0, 0, api.ErrRange},
		// Bits that a number of 32 bits would lose.
		{"\x7f\x80\x80\x80\x80\x08", 7, 0, 0, api.ErrRange}, {"\x7f\x80\x80\x80\x80\x10", 7, 0, 0, api.ErrRange}, {"\x7f\x80\x80\x80\x80\x40", 7, 0, 0, api.ErrRange},
		{"\x7f\xff\xff\xff\xff\x7f", 7, 0, 0, api.ErrRange},
		// A fifth byte behind the first one, and a sixth one.
		{"\xff\x80\x80\x80\x80", 8, 0, 0, api.ErrShort}, {"\xff\xff\xff\xff\xff", 8, 0, 0, api.ErrShort},
		{"\xff\x80\x80\x80\x80\x80", 8, 0, 0, api.ErrRange}, {"\xff\x80\x80\x80\x80\x80\x00", 8, 0, 0, api.ErrRange},
		{"\xff\x80\x80\x80\x80\x80\x80\x80\x00", 8, 0, 0, api.ErrRange}, {"\x01\xff\xff\xff\xff\xff", 1, 0, 0, api.ErrRange},
		{"", 1, 0, 0, api.ErrShort}, {"", 8, 0, 0, api.ErrShort}, {"\x01", 1, 0, 0, api.ErrShort}, {"\xff", 8, 0, 0, api.ErrShort}, {"\x1f\x9a", 5, 0, 0, api.ErrShort},
	} {
		checkTakeInt(t, []byte(r.b), r.bits, r.n, r.size, r.e)
	}
}

// TestTakeIntWrong is of P3.2: ErrArg goes ahead of ErrShort and of ErrRange.
func TestTakeIntWrong(t *testing.T) {
	for _, bits := range wrongBits() {
		for _, b := range []string{"", "\x00", "\x0a", "\xff", "\x1f\x9a\x0a", "\xff\xff\xff\xff\xff\x7f", strings.Repeat("\xff", 20)} {
			checkTakeInt(t, []byte(b), bits, 0, 0, api.ErrArg)
		}
	}
}

// TestTakeIntAll is of P3.2: all first bytes, with all that may follow at the edges, and cut at each place.
func TestTakeIntAll(t *testing.T) {
	errs := []api.Errno{isNumber: api.OK, isShort: api.ErrShort, isTooGreat: api.ErrRange}
	check := func(b []byte) {
		for bits := 1; bits <= 8; bits++ {
			n, size, is := readNumber(b, bits)
			checkTakeInt(t, b, bits, n, size, errs[is])
		}
	}
	check(nil)
	edges := []byte{0x00, 0x07, 0x08, 0x7f, 0x80, 0xff}
	for first := range 256 {
		check([]byte{byte(first)})
		for second := range 256 {
			check([]byte{byte(first), byte(second)})
		}
	}
	var follow func(b []byte)
	follow = func(b []byte) {
		check(b)
		if len(b) == 7 || b[len(b)-1] < 0x80 && len(b) > 1 {
			return
		}
		for _, c := range edges {
			follow(append(bytes.Clone(b), c))
		}
	}
	for _, first := range []byte{0x01, 0x0f, 0x1f, 0x3f, 0x7f, 0xff} {
		follow([]byte{first})
	}
}

// TestTakeIntLeavesBytes is of P3.2: what is handed in isn't changed.
func TestTakeIntLeavesBytes(t *testing.T) {
	b := []byte("\xff\x9a\x0a...")
	if _, _, e := prefix.TakeInt(b[:3], 5); e != api.OK || string(b) != "\xff\x9a\x0a..." {
		t.Errorf("P3.2: TakeInt left %x, %d", b, e)
	}
}

// TestPutTakeInt is of P3.5: what is put is taken as it was, whatever stands behind it; not without its last byte.
func TestPutTakeInt(t *testing.T) {
	for bits := 1; bits <= 8; bits++ {
		for flags := range flagsOf(bits) {
			for _, n := range numbers(bits) {
				b, e := prefix.PutInt(flags, bits, n)
				if e != api.OK {
					t.Fatalf("P3.1: PutInt(%#x, %d, %d): %d", flags, bits, n, e)
				}
				if m, k, e := prefix.TakeInt(b[:len(b)-1], bits); m != 0 || k != 0 || e != api.ErrShort {
					t.Errorf("P3.5: TakeInt(%x, %d), cut = %d, %d, %d", b, bits, m, k, e)
				}
				if n > math.MaxInt32 {
					continue
				}
				for _, behind := range []string{"", "\x00", "\xff\xff\xff\xff\xff\xff"} {
					if m, k, e := prefix.TakeInt(append(bytes.Clone(b), behind...), bits); m != int64(n) || k != len(b) || e != api.OK {
						t.Errorf("P3.5: TakeInt(%x and %x, %d) = %d, %d, %d; not %d", b, behind, bits, m, k, e, n)
					}
				}
			}
		}
	}
}
