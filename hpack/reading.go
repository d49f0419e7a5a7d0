package hpack

import (
	"slices"

	"drawbridge/api"
	"drawbridge/prefix"
	"drawbridge/table"
)

// maxSizes is how many changes of size a block may have.
const maxSizes = 2

// reading is a block that is being read. Its methods give up by a panic with
// the error, of type api.Errno, where a part can't be read.
type reading struct {
	table      *table.Table
	most, list int    // the cap, the list limit
	rest       []byte // the parts that aren't read yet
	sizes      int    // how many changes of size there were
	cost       int    // what all fields cost that there were
	fields     []api.Field
	had        int         // how many rows there were ahead of the block
	gone       []api.Field // those of them that went, the oldest first
}

// must gives up at an error.
func must(e api.Errno) {
	if e != api.OK {
		panic(e)
	}
}

// part reads the part at the beginning of the rest.
func (r *reading) part() {
	first := r.rest[0]
	switch {
	case first&rowFlag != 0:
		r.keep(r.row(r.number(rowBits)))
	case first&addFlag != 0:
		f := r.literal(addBits)
		r.add(f)
		r.keep(f)
	case first&sizeFlag != 0:
		r.resize(r.number(sizeBits))
	default:
		f := r.literal(plainBits)
		f.Never = first&neverFlag != 0
		r.keep(f)
	}
}

// number takes a number with a prefix.
func (r *reading) number(bits int) int {
	n, size, e := prefix.TakeInt(r.rest, bits)
	must(e)
	r.rest = r.rest[size:]
	return int(n)
}

// text takes a text.
func (r *reading) text() string {
	s, size, e := prefix.TakeText(r.rest)
	must(e)
	r.rest = r.rest[size:]
	return s
}

// row: the field of a row.
func (r *reading) row(n int) api.Field {
	f, e := r.table.At(n)
	must(e)
	return f
}

// literal takes a field whose value is a text, and its name one, too, where it isn't a row's.
func (r *reading) literal(bits int) api.Field {
	f := api.Field{}
	if n := r.number(bits); n == 0 {
		f.Name = r.text()
	} else {
		f.Name = r.row(n).Name
	}
	f.Value = r.text()
	return f
}

// resize changes the table's most, where a change may stand.
func (r *reading) resize(most int) {
	r.sizes++
	// Each field costs something: a cost tells that there was one.
	if r.cost > 0 || r.sizes > maxSizes || most > r.most {
		panic(api.ErrUpdate)
	}
	r.makeRoom(most)
	must(r.table.Resize(most))
}

// add brings a field into the table.
func (r *reading) add(f api.Field) {
	r.makeRoom(r.table.Most() - cost(f))
	r.table.Add(f)
}

// makeRoom notes the rows that are about to go where the table's size must come
// down to another. Those that this block brought aren't noted: nobody asks after
// them, and a short block can bring far more of them than a table has room for.
func (r *reading) makeRoom(size int) {
	left := r.table.Size()
	for n := api.StaticRows + r.table.Len(); left > size && len(r.gone) < r.had; n-- {
		f := r.row(n)
		left -= cost(f)
		r.gone = append(r.gone, f)
	}
}

// ahead: the rows as they were ahead of the block, the youngest first.
func (r *reading) ahead() []api.Field {
	rows := rowsOf(r.table)
	came := len(rows) - (r.had - len(r.gone)) // how many of them the block brought
	rows = rows[came:]
	for _, f := range slices.Backward(r.gone) {
		rows = append(rows, f)
	}
	return rows
}

// keep has a field in the list. A short block may name a great row often: of a
// list above its limit, of which no field is told, no more are kept.
func (r *reading) keep(f api.Field) {
	r.cost += cost(f)
	if r.cost <= r.list {
		r.fields = append(r.fields, f)
	}
}
