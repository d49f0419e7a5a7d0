package hpack_test

import (
	"slices"
	"strings"
	"testing"

	"drawbridge/api"
	"drawbridge/hpack"
	"drawbridge/prefix"
)

// dice gives some numbers, for each first state others.
type dice uint32

// below: some number from 0 on, below n.
func (d *dice) below(n int) int {
	*d = *d*1664525 + 1013904223
	return int(*d>>8) % n
}

func oneOf[T any](d *dice, list []T) T { return list[d.below(len(list))] }

func someNames() []string {
	return []string{"", "a", "b", "ab", "x-name", ":method", ":path", ":status", ":authority", "cookie", "authorization", "set-cookie", "accept-encoding", "www-authenticate", strings.Repeat("n", 40)}
}

func someValues() []string {
	return []string{"", "1", "2", "/", "GET", "200", "gzip, deflate", "a value", "\x00\xff", long(30), strings.Repeat("v", 70), long(200), long(4030)}
}

func (d *dice) field() api.Field {
	return api.Field{Name: oneOf(d, someNames()), Value: oneOf(d, someValues()), Never: d.below(8) == 0}
}

func (d *dice) fields() []api.Field {
	list := make([]api.Field, d.below(6))
	for i := range list {
		list[i] = d.field()
	}
	return list
}

// text: bytes of a text: as it is, or as bits; at times wrong ones.
func (d *dice) text(s string) string {
	switch d.below(300) {
	case 0:
		return oneOf(d, []string{"\x7f", "\xff\xff\xff\xff\xff\xff", "\x81\x00", "\x84\xff\xff\xff\xff", "\x7f\xe1\x1f", "\x04a"})
	case 1, 2, 3:
		return number(0, 7, len(s)+1) + s
	}
	if d.below(2) == 0 {
		return string(prefix.PutText(s))
	}
	return text(s)
}

// row: the number of a row; at times of one that isn't there.
func (d *dice) row(came int) int {
	if d.below(200) == 0 {
		return fixed + 1 + came + d.below(2)
	}
	if d.below(2) == 0 || came == 0 {
		return 1 + d.below(fixed)
	}
	return fixed + 1 + d.below(came)
}

// part: a part of some form, where so many rows came.
func (d *dice) part(came int) string {
	forms := []struct {
		flags byte
		bits  int
	}{{0x40, 6}, {0x40, 6}, {0x00, 4}, {0x10, 4}}
	form, f := oneOf(d, forms), d.field()
	switch d.below(5) {
	case 0:
		return rowPart(d.row(came))
	case 1, 2:
		return number(form.flags, form.bits, d.row(came)) + d.text(f.Value)
	}
	return number(form.flags, form.bits, 0) + d.text(f.Name) + d.text(f.Value)
}

// block: a block, most of them right, where so many rows came, and the cap is such.
func (d *dice) block(came, most int) string {
	block := ""
	for d.below(3) == 0 {
		block += sizePart(min(most+d.below(2)*d.below(2)*d.below(2), oneOf(d, []int{0, 31, 34, 70, 100, 300, firstMost, maxMost, maxMost + 1})))
	}
	for range d.below(6) {
		block += d.part(came)
	}
	if d.below(200) == 0 {
		block += sizePart(0)
	}
	if b := []byte(block); len(b) > 0 && d.below(100) == 0 {
		b[d.below(len(b))] = byte(d.below(256))
		block = string(b)
	}
	if d.below(200) == 0 {
		block = block[:d.below(len(block)+1)]
	}
	return block
}

// TestDecoderLikeModel is of P5.1, P5.2, P5.5: a decoder and what the chapter says it is, after each block; behind an error, too.
func TestDecoderLikeModel(t *testing.T) {
	told := map[api.Errno]int{}
	for first := range 400 {
		d := dice(first * 7919)
		most := oneOf(&d, []int{0, 33, 34, 100, 200, 1000, firstMost, 5000, maxMost})
		list := oneOf(&d, []int{0, 100, 300, 10000, noLimit})
		x, m := decoderOf(t, most, list), newReader(most, list)
		for range 60 {
			block := d.block(len(m.rows.came), most)
			got, e := x.Decode([]byte(block))
			want, wanted := m.decode(block)
			if !alike(got, want) || e != wanted {
				t.Fatalf("P5.2: Decode(%x) = %s, %d; not %s, %d", block, say(got), e, say(want), wanted)
			}
			checkRows(t, "P5.5", x.Rows(), m.rows.came...)
			if told[e]++; t.Failed() {
				t.Fatalf("P5.5: behind %x", block)
			}
		}
	}
	for _, e := range []api.Errno{api.OK, api.ErrState, api.ErrShort, api.ErrRange, api.ErrLong, api.ErrForm, api.ErrIndex, api.ErrUpdate, api.ErrList} {
		if told[e] == 0 {
			t.Errorf("P5.2: no block had the error %d", e)
		}
	}
}

// TestAnyBytes is of P5.2: all blocks of two bytes, and blocks of any bytes at all.
func TestAnyBytes(t *testing.T) {
	check := func(block string) {
		t.Helper()
		x, m := decoderOf(t, firstMost, 200, addPart(0, "a", "b")), newReader(firstMost, 200)
		m.decode(addPart(0, "a", "b"))
		got, e := x.Decode([]byte(block))
		if want, wanted := m.decode(block); !alike(got, want) || e != wanted {
			t.Fatalf("P5.2: Decode(%x) = %s, %d; not %s, %d", block, say(got), e, say(want), wanted)
		}
		checkRows(t, "P5.5", x.Rows(), m.rows.came...)
	}
	for n := range 1 << 16 {
		check(string([]byte{byte(n >> 8), byte(n)}))
	}
	d := dice(1)
	for range 20000 {
		b := make([]byte, 1+d.below(12))
		for i := range b {
			b[i] = oneOf(&d, []byte{byte(d.below(256)), byte(d.below(256)), 0, 1, 0x20, 0x3f, 0x40, 0x82, 0xbe, 0xff})
		}
		check(string(b))
	}
}

// checkRead holds what a decoder reads in an encoder's block against the list that this was given, and its rows against the encoder's.
func checkRead(t *testing.T, x *hpack.Encoder, reader *hpack.Decoder, list []api.Field, block string) {
	t.Helper()
	want := slices.Clone(list)
	for i, f := range want {
		want[i].Never = f.Never || f.Name == "authorization" || f.Name == "set-cookie"
	}
	checkDecode(t, "P5.7", reader, block, want...)
	checkRows(t, "P5.7", reader.Rows(), x.Rows()...)
}

// TestEncoderLikeModel is of P5.3, P5.4, P5.5, P5.7: an encoder and what the chapter says it is; and a decoder that reads what it writes.
func TestEncoderLikeModel(t *testing.T) {
	for first := range 300 {
		d := dice(first * 104729)
		own := oneOf(&d, []int{0, 33, 34, 100, 200, 1000, firstMost, 5000, maxMost})
		x, m, reader := encoderOf(t, own), newWriter(own), decoderOf(t, own, noLimit)
		for range 60 {
			for d.below(3) == 0 {
				n := oneOf(&d, []int{0, 33, 34, 70, 100, 250, firstMost - 1, firstMost, 4500, 6000, maxMost, 1 << 40})
				limit(t, x, n)
				m.limit(n)
				checkRows(t, "P5.5", x.Rows(), m.rows.came...)
			}
			list := d.fields()
			block := m.encode(list)
			checkEncode(t, "P5.4", x, list, block)
			checkRows(t, "P5.5", x.Rows(), m.rows.came...)
			checkRead(t, x, reader, list, block)
			if t.Failed() {
				return
			}
		}
	}
}

// TestEncoderToDecoder is of P5.7: of caps that are just the encoder's limit, and greater.
func TestEncoderToDecoder(t *testing.T) {
	for _, own := range []int{0, 34, 100, firstMost, maxMost} {
		for _, more := range []int{0, 1, 1000, maxMost} {
			x, reader := encoderOf(t, own), decoderOf(t, min(own+more, maxMost), noLimit)
			d := dice(own + more)
			for range 200 {
				if d.below(4) == 0 {
					limit(t, x, d.below(300))
				}
				if d.below(8) == 0 {
					limit(t, x, d.below(100000))
				}
				list := d.fields()
				checkRead(t, x, reader, list, string(x.Encode(list)))
			}
		}
	}
}
