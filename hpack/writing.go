package hpack

import (
	"drawbridge/api"
	"drawbridge/prefix"
	"drawbridge/table"
)

// writing is a block that is being written.
type writing struct {
	table *table.Table
	bytes []byte
}

// field writes a field.
func (w *writing) field(f api.Field) {
	n, same := w.table.Find(f)
	write := w.way(f, same)
	write(f, n)
}

// way: how a field is written; same says whether there is a row with its value.
func (w *writing) way(f api.Field, same bool) func(f api.Field, n int) {
	switch {
	case f.Never || secret(f.Name):
		return w.never
	case same:
		return w.row
	case cost(f) > w.table.Most():
		return w.plain
	}
	return w.added
}

// secret: whether a field with this name has a value that nobody on the way may keep.
func secret(name string) bool { return name == "authorization" || name == "set-cookie" }

// row writes a field as the row that it is like.
func (w *writing) row(_ api.Field, n int) { w.number(rowFlag, rowBits, n) }

// never writes a field that never comes into the table.
func (w *writing) never(f api.Field, n int) { w.literal(neverFlag, plainBits, f, n) }

// plain writes a field that doesn't come into the table.
func (w *writing) plain(f api.Field, n int) { w.literal(plainFlag, plainBits, f, n) }

// added writes a field that comes into the table.
func (w *writing) added(f api.Field, n int) {
	w.literal(addFlag, addBits, f, n)
	w.table.Add(f)
}

// literal writes a field's value as a text, and its name, too, where it isn't the row n's.
func (w *writing) literal(flags byte, bits int, f api.Field, n int) {
	w.number(flags, bits, n)
	if n == 0 {
		w.text(f.Name)
	}
	w.text(f.Value)
}

// number writes a number with a prefix. The flags go with the bits in all that are written.
func (w *writing) number(flags byte, bits int, n int) {
	b, _ := prefix.PutInt(flags, bits, uint32(n))
	w.bytes = append(w.bytes, b...)
}

// text writes a text.
func (w *writing) text(s string) { w.bytes = append(w.bytes, prefix.PutText(s)...) }
