package hpack

import (
	"drawbridge/api"
	"drawbridge/table"
)

// Encoder writes blocks.
type Encoder struct {
	own   int // its own limit
	table *table.Table
	told  int // what the other end was told of the table's most
	least int // the least that the most was since then
}

// NewEncoder makes an encoder. ErrArg.
func NewEncoder(own int) (*Encoder, api.Errno) {
	if !sized(own) {
		return nil, api.ErrArg
	}
	most := min(own, api.FirstTable)
	t, e := table.New(most)
	return &Encoder{own: own, table: t, told: api.FirstTable, least: most}, e
}

// Limit: the other end's limit. ErrArg.
func (e *Encoder) Limit(n int) api.Errno {
	if e == nil || n < 0 {
		return api.ErrArg
	}
	most := min(e.own, n)
	e.least = min(e.least, most)
	return e.table.Resize(most)
}

// Rows: the rows that came and are there.
func (e *Encoder) Rows() []api.Field {
	if e == nil {
		return nil
	}
	return rowsOf(e.table)
}

// Encode: a list as a block.
func (e *Encoder) Encode(list []api.Field) []byte {
	if e == nil {
		return nil
	}
	w := writing{table: e.table}
	e.tell(&w)
	for _, f := range list {
		w.field(f)
	}
	return w.bytes
}

// tell writes the changes of size that the other end must know of.
func (e *Encoder) tell(w *writing) {
	now := e.table.Most()
	if e.least < e.told && e.least < now {
		// Rows went for it that are there at the other end still.
		w.number(sizeFlag, sizeBits, e.least)
		w.number(sizeFlag, sizeBits, now)
	} else if now != e.told {
		w.number(sizeFlag, sizeBits, now)
	}
	e.told, e.least = now, now
}
