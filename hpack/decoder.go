package hpack

import (
	"slices"

	"drawbridge/api"
	"drawbridge/table"
)

// Decoder reads blocks. Behind a block that it couldn't read it has no table.
type Decoder struct {
	most, list int // its cap, its list limit
	table      *table.Table
	left       []api.Field // where it has no table: its rows ahead of that block
}

// NewDecoder makes a decoder. ErrArg.
func NewDecoder(most, list int) (*Decoder, api.Errno) {
	if !sized(most) || list < 0 {
		return nil, api.ErrArg
	}
	t, e := table.New(min(most, api.FirstTable))
	return &Decoder{most: most, list: list, table: t}, e
}

// Rows: the rows that came and are there.
func (d *Decoder) Rows() []api.Field {
	if d == nil {
		return nil
	}
	if d.table == nil {
		return slices.Clone(d.left)
	}
	return rowsOf(d.table)
}

// Decode: a block's fields. ErrState, ErrShort, ErrRange, ErrLong, ErrForm, ErrIndex, ErrUpdate, ErrList.
func (d *Decoder) Decode(block []byte) (fields []api.Field, e api.Errno) {
	if d == nil || d.table == nil {
		return nil, api.ErrState
	}
	r := reading{table: d.table, most: d.most, list: d.list, rest: block, had: d.table.Len()}
	defer func() {
		fault := recover()
		if fault == nil {
			return
		}
		unread, ok := fault.(api.Errno)
		if !ok {
			panic(fault) // no part gives up so: it isn't the block's fault
		}
		// The parts ahead of that one may have changed the table; but a call that
		// answers an error changes nothing that Rows could tell.
		d.table, d.left = nil, r.ahead()
		fields, e = nil, unread
	}()
	for len(r.rest) > 0 {
		r.part()
	}
	if r.cost > d.list {
		return nil, api.ErrList
	}
	return r.fields, api.OK
}
