package hpack_test

import (
	"encoding/hex"
	"fmt"
	"strings"
	"testing"

	"drawbridge/api"
	"drawbridge/hpack"
	"drawbridge/prefix"
	"drawbridge/table"
)

const (
	maxMost   = 65536 // the greatest cap, the greatest own limit
	firstMost = 4096  // a table's most at first
	perField  = 32    // what a field costs beside its bytes
	fixed     = 61    // how many rows never change
	maxText   = 4096  // bytes of a text that is read
	noLimit   = 1 << 40
)

// field: a field with a name and a value.
func field(name, value string) api.Field { return api.Field{Name: name, Value: value} }

// never: a field that is never kept on its way.
func never(name, value string) api.Field { return api.Field{Name: name, Value: value, Never: true} }

func costOf(f api.Field) int { return len(f.Name) + len(f.Value) + perField }

func listCost(list []api.Field) int {
	sum := 0
	for _, f := range list {
		sum += costOf(f)
	}
	return sum
}

// long: a value of so many bytes whose bits are just as many.
func long(n int) string { return strings.Repeat("&", n) }

// Parts of blocks. A name is that of a row, or, with a row of 0, a text.

func number(flags byte, bits, n int) string {
	b, e := prefix.PutInt(flags, bits, uint32(n))
	if e != api.OK {
		panic(e)
	}
	return string(b)
}

func text(s string) string { return number(0, 7, len(s)) + s }

func coded(bits string) string { return number(0x80, 7, len(bits)) + bits }

func rowPart(n int) string { return number(0x80, 7, n) }

func sizePart(n int) string { return number(0x20, 5, n) }

func fieldPart(flags byte, bits, row int, name, value string) string {
	if row > 0 {
		return number(flags, bits, row) + text(value)
	}
	return number(flags, bits, row) + text(name) + text(value)
}

func addPart(row int, name, value string) string { return fieldPart(0x40, 6, row, name, value) }

func plainPart(row int, name, value string) string { return fieldPart(0x00, 4, row, name, value) }

func neverPart(row int, name, value string) string { return fieldPart(0x10, 4, row, name, value) }

// sixteens: bytes that are named in sixteens.
func sixteens(s string) string {
	b, err := hex.DecodeString(strings.Join(strings.Fields(s), ""))
	if err != nil {
		panic(err)
	}
	return string(b)
}

// Checks.

// say: a list as a failing test tells it; of long texts the beginning and the length.
func say(list []api.Field) string {
	var words []string
	for _, f := range list {
		words = append(words, fmt.Sprintf("%.30q(%d): %.30q(%d) %v", f.Name, len(f.Name), f.Value, len(f.Value), f.Never))
	}
	return "[" + strings.Join(words, ", ") + "]"
}

func alike(a, b []api.Field) bool {
	if len(a) != len(b) {
		return false
	}
	for i := range a {
		if a[i] != b[i] {
			return false
		}
	}
	return true
}

func decoderOf(t *testing.T, most, list int, blocks ...string) *hpack.Decoder {
	t.Helper()
	d, e := hpack.NewDecoder(most, list)
	if d == nil || e != api.OK {
		t.Fatalf("P5.1: NewDecoder(%d, %d): %d", most, list, e)
	}
	for _, b := range blocks {
		if _, e := d.Decode([]byte(b)); e != api.OK {
			t.Fatalf("P5.2: Decode(%.40x): %d", b, e)
		}
	}
	return d
}

func encoderOf(t *testing.T, own int, lists ...[]api.Field) *hpack.Encoder {
	t.Helper()
	x, e := hpack.NewEncoder(own)
	if x == nil || e != api.OK {
		t.Fatalf("P5.3: NewEncoder(%d): %d", own, e)
	}
	for _, list := range lists {
		x.Encode(list)
	}
	return x
}

func checkDecode(t *testing.T, promise string, d *hpack.Decoder, block string, want ...api.Field) {
	t.Helper()
	if got, e := d.Decode([]byte(block)); !alike(got, want) || e != api.OK {
		t.Errorf("%s: Decode(%.60x) = %s, %d; not %s", promise, block, say(got), e, say(want))
	}
}

func checkError(t *testing.T, promise string, d *hpack.Decoder, block string, want api.Errno) {
	t.Helper()
	if got, e := d.Decode([]byte(block)); len(got) != 0 || e != want {
		t.Errorf("%s: Decode(%.60x) = %s, %d; not %d", promise, block, say(got), e, want)
	}
}

func checkEncode(t *testing.T, promise string, x *hpack.Encoder, list []api.Field, want string) {
	t.Helper()
	if got := x.Encode(list); string(got) != want {
		t.Errorf("%s: Encode(%s) = %.60x (%d bytes); not %.60x (%d bytes)", promise, say(list), got, len(got), want, len(want))
	}
}

func checkRows(t *testing.T, promise string, got []api.Field, want ...api.Field) {
	t.Helper()
	if !alike(got, want) {
		t.Errorf("%s: Rows() = %s; not %s", promise, say(got), say(want))
	}
}

// rows is a table as layer 4's chapter says it: rows that are gone through one by one.
type rows struct {
	most int
	came []api.Field // the youngest first
}

func (r *rows) resize(most int) {
	r.most = most
	for listCost(r.came) > most {
		r.came = r.came[:len(r.came)-1]
	}
}

func (r *rows) add(f api.Field) {
	all := rows{came: append([]api.Field{field(f.Name, f.Value)}, r.came...)}
	all.resize(r.most)
	*r = all
}

// at: the row with a number, and whether it is there.
func (r *rows) at(n int) (api.Field, bool) {
	if n > fixed && n <= fixed+len(r.came) {
		return r.came[n-fixed-1], true
	}
	var none *table.Table
	f, e := none.At(n)
	return f, e == api.OK
}

// find: the number of a field's row, and whether that has its value, too.
func (r *rows) find(f api.Field) (int, bool) {
	named := 0
	for n := 1; n <= fixed+len(r.came); n++ {
		row, _ := r.at(n)
		if row.Name == f.Name && row.Value == f.Value {
			return n, true
		}
		if row.Name == f.Name && named == 0 {
			named = n
		}
	}
	return named, false
}

// reader is a decoder as the chapter says it.
type reader struct {
	most, list int
	rows       rows
	useless    bool
}

func newReader(most, list int) *reader {
	return &reader{most: most, list: list, rows: rows{most: min(most, firstMost)}}
}

func (r *reader) decode(block string) ([]api.Field, api.Errno) {
	if r.useless {
		return nil, api.ErrState
	}
	ahead := r.rows
	var list []api.Field
	sizes := 0
	for block != "" {
		var more []api.Field
		var e api.Errno
		before := len(block)
		size := block[0]&0xe0 == 0x20
		more, block, e = r.part(block)
		if size {
			sizes++
		}
		if e == api.OK && size && (sizes > 2 || len(list) > 0) {
			e = api.ErrUpdate
		}
		if e != api.OK {
			r.useless, r.rows = true, ahead
			return nil, e
		}
		if len(block) >= before {
			panic("a part without bytes")
		}
		list = append(list, more...)
	}
	if listCost(list) > r.list {
		return nil, api.ErrList
	}
	return list, api.OK
}

// part: the field of the first part, if it is one, and what stands behind it.
func (r *reader) part(block string) ([]api.Field, string, api.Errno) {
	bits := 4
	switch {
	case block[0] >= 0x80:
		bits = 7
	case block[0] >= 0x40:
		bits = 6
	case block[0] >= 0x20:
		bits = 5
	}
	number, size, e := prefix.TakeInt([]byte(block), bits)
	if e != api.OK {
		return nil, "", e
	}
	n, kind := int(number), block[0]
	block = block[size:]
	if bits == 5 {
		if n > r.most {
			return nil, "", api.ErrUpdate
		}
		r.rows.resize(n)
		return nil, block, api.OK
	}
	f, there := r.rows.at(n)
	if !there && (n > 0 || bits == 7) {
		return nil, "", api.ErrIndex
	}
	if bits == 7 {
		return []api.Field{f}, block, api.OK
	}
	if n == 0 {
		if f.Name, size, e = prefix.TakeText([]byte(block)); e != api.OK {
			return nil, "", e
		}
		block = block[size:]
	}
	if f.Value, size, e = prefix.TakeText([]byte(block)); e != api.OK {
		return nil, "", e
	}
	if bits == 6 {
		r.rows.add(f)
	}
	f.Never = kind < 0x20 && kind >= 0x10
	return []api.Field{f}, block[size:], api.OK
}

// writer is an encoder as the chapter says it.
type writer struct {
	own, told int
	rows      rows
	mosts     []int // all that the most was since the block ahead
}

func newWriter(own int) *writer {
	most := min(own, firstMost)
	return &writer{own: own, told: firstMost, rows: rows{most: most}, mosts: []int{most}}
}

func (w *writer) limit(n int) {
	w.rows.resize(min(w.own, n))
	w.mosts = append(w.mosts, w.rows.most)
}

func (w *writer) encode(list []api.Field) string {
	block, least, now := "", w.mosts[0], w.rows.most
	for _, most := range w.mosts {
		least = min(least, most)
	}
	if least < w.told && least < now {
		block = sizePart(least) + sizePart(now)
	} else if now != w.told {
		block = sizePart(now)
	}
	w.told, w.mosts = now, []int{now}
	for _, f := range list {
		block += w.field(f)
	}
	return block
}

func (w *writer) field(f api.Field) string {
	n, same := w.rows.find(f)
	texts := string(prefix.PutText(f.Value))
	if n == 0 {
		texts = string(prefix.PutText(f.Name)) + texts
	}
	if f.Never || f.Name == "authorization" || f.Name == "set-cookie" {
		return number(0x10, 4, n) + texts
	}
	if same {
		return rowPart(n)
	}
	if costOf(f) > w.rows.most {
		return number(0x00, 4, n) + texts
	}
	w.rows.add(f)
	return number(0x40, 6, n) + texts
}
