package chop_test

import (
	"encoding/binary"
	"fmt"
	"reflect"
	"testing"

	"drawbridge/api"
	"drawbridge/chop"
	"drawbridge/frame"
)

const (
	preface    = "PRI * HTTP/2.0\r\n\r\nSM\r\n\r\n"
	headSize   = 9
	maxPayload = 1<<24 - 1
	someLimit  = 16384
)

// four: a number's four bytes.
func four(n int64) string { return string(binary.BigEndian.AppendUint32(nil, uint32(n))) }

// framed: a payload as the bytes of a frame.
func framed(kind, flags, stream int, payload string) string {
	return four(int64(len(payload)))[1:] + string([]byte{byte(kind), byte(flags)}) + four(int64(stream)) + payload
}

// told is an item, and the bytes of which it is told.
type told struct {
	bytes string
	item  api.Item
}

func came(f api.Frame) api.Item { return api.Item{Frame: f} }

func wrong(code int64, stream int) api.Item {
	return api.Item{Fault: api.Fault{Is: true, Code: code, Stream: stream}}
}

// good: frames behind which others may stand, and faults of streams.
var good = []told{
	{"\x00\x00\x0c\x04\x00\x00\x00\x00\x00\x00\x03\x00\x00\x00\x64\x00\x02\x00\x00\x00\x00",
		came(api.Frame{Type: 4, Settings: []api.Setting{{ID: 3, Value: 100}, {ID: 2}}})},
	{"\x00\x00\x00\x04\x01\x00\x00\x00\x00", came(api.Frame{Type: 4, Flags: 1})},
	{"\x00\x00\x04\x08\x00\x00\x00\x00\x00\x00\x00\x00\x05", came(api.Frame{Type: 8, Inc: 5})},
	{"\x00\x00\x09\x01\x2d\x00\x00\x00\x01\x01\x80\x00\x00\x03\xc8\x82\x84\x00",
		came(api.Frame{Type: 1, Flags: 45, Stream: 1, Data: "\x82\x84", Pad: 1, Dep: 3, Weight: 200, Sole: true})},
	{"\x00\x00\x04\x08\x00\x00\x00\x00\x01\x00\x00\x00\x00", wrong(1, 1)},
	{"\x00\x00\x05\x00\x00\x00\x00\x00\x01hello", came(api.Frame{Stream: 1, Data: "hello"})},
	{"\x00\x00\x00\x00\x01\x00\x00\x00\x01", came(api.Frame{Flags: 1, Stream: 1})},
	{"\x00\x00\x04\x02\x00\x00\x00\x00\x07four", wrong(6, 7)},
	{"\x00\x00\x00\x02\x00\x00\x00\x00\x09", wrong(6, 9)},
	{"\x00\x00\x08\x06\x00\x00\x00\x00\x0012345678", came(api.Frame{Type: 6, Data: "12345678"})},
	{"\x00\x00\x03\x09\x04\x00\x00\x00\x03end", came(api.Frame{Type: 9, Flags: 4, Stream: 3, Data: "end"})},
	{"\x00\x00\x04\x03\x00\x00\x00\x00\x03\x00\x00\x00\x08", came(api.Frame{Type: 3, Stream: 3, Code: 8})},
	{"\x00\x00\x03\x77\xff\x7f\xff\xff\xff\x00\x00\x00", came(api.Frame{Type: 0x77, Flags: 255, Stream: 1<<31 - 1, Data: "\x00\x00\x00"})},
	{"\x00\x00\x0a\x07\x00\x00\x00\x00\x00\x00\x00\x00\x03\x00\x00\x00\x02by", came(api.Frame{Type: 7, Last: 3, Code: 2, Data: "by"})},
}

// fatal: faults of the connection, each with the bytes with which it is told (their limit being someLimit).
var fatal = []told{
	{"\x00\x00\x01\x00\x00\x00\x00\x00\x00x", wrong(1, 0)},
	{"\x00\x00\x04\x05\x00\x00\x00\x00\x01four", wrong(1, 0)},
	{"\x00\x00\x00\x04\x00\x00\x00\x00\x01", wrong(1, 0)},
	{"\x00\x00\x07\x06\x00\x00\x00\x00\x001234567", wrong(6, 0)},
	{"\x00\x00\x06\x04\x01\x00\x00\x00\x00\x00\x01\x00\x00\x00\x00", wrong(6, 0)},
	{"\x00\x00\x02\x00\x08\x00\x00\x00\x01\x02x", wrong(1, 0)},
	{"\x00\x00\x04\x08\x00\x00\x00\x00\x00\x00\x00\x00\x00", wrong(1, 0)},
	{"\x00\x00\x06\x04\x00\x00\x00\x00\x00\x00\x04\x80\x00\x00\x00", wrong(3, 0)},
	{"\x00\x40\x01\x00\x00\x00\x00\x00\x01", wrong(6, 0)},
	{"\xff\xff\xff\x00\x00\x00\x00\x00\x01", wrong(6, 0)},
}

// bytesOf: the bytes of several items, one behind the other.
func bytesOf(list []told) string {
	b := ""
	for _, r := range list {
		b += r.bytes
	}
	return b
}

func itemsOf(list []told) []api.Item {
	var l []api.Item
	for _, r := range list {
		l = append(l, r.item)
	}
	return l
}

// soFar: the items that are told of the first n of several items' bytes, how
// many bytes are left, and whether a fault of the connection was among them.
func soFar(list []told, n int) ([]api.Item, int, bool) {
	var l []api.Item
	for _, r := range list {
		if n < len(r.bytes) {
			break
		}
		n -= len(r.bytes)
		l = append(l, r.item)
		if r.item.Fault.Is && r.item.Fault.Stream == 0 {
			return l, 0, true
		}
	}
	return l, n, false
}

// model: what the chapter says of bytes that came, in however many pieces: the
// items, how many bytes are left, and whether it is over.
func model(b string, most int, greeted bool) ([]api.Item, int, bool) {
	if greeted {
		for i := range min(len(b), len(preface)) {
			if b[i] != preface[i] {
				return []api.Item{wrong(1, 0)}, 0, true
			}
		}
		if len(b) < len(preface) {
			return nil, len(b), false
		}
		b = b[len(preface):]
	}
	var l []api.Item
	for {
		f, n, x := frame.Take([]byte(b), max(most, 0))
		if x.Is && x.Stream == 0 {
			return append(l, api.Item{Fault: x}), 0, true
		}
		if n == 0 {
			return l, len(b), false
		}
		l = append(l, api.Item{Frame: f, Fault: x})
		b = b[n:]
	}
}

// Checks.

// plain: items with no list of settings in place of one without elements.
func plain(list []api.Item) []api.Item {
	l := append([]api.Item{}, list...)
	for i := range l {
		if len(l[i].Frame.Settings) == 0 {
			l[i].Frame.Settings = nil
		}
	}
	return l
}

// say: items as a failing test tells them; of many the first ones, of long texts the beginning.
func say(list []api.Item) string {
	text := fmt.Sprintf("%d items", len(list))
	for i, item := range list {
		if i == 20 {
			return text + " .."
		}
		if item.Fault.Is {
			text += fmt.Sprintf(" {fault %d of %d}", item.Fault.Code, item.Fault.Stream)
			continue
		}
		f := item.Frame
		text += fmt.Sprintf(" {type %d, flags %d, stream %d, data %.20q (%d), %d settings}", f.Type, f.Flags, f.Stream, f.Data, len(f.Data), len(f.Settings))
	}
	return text
}

func alike(a, b []api.Item) bool { return reflect.DeepEqual(plain(a), plain(b)) }

// checkState holds what is left, and whether it is over, against what is asked for.
func checkState(t *testing.T, promise string, f *chop.Feed, left int, over bool) {
	t.Helper()
	if f.Left() != left || f.Over() != over {
		t.Errorf("%s: Left %d, Over %v; not %d, %v", promise, f.Left(), f.Over(), left, over)
	}
}

// checkTake gives a feed a piece, and holds what it tells against what is asked for.
func checkTake(t *testing.T, promise string, f *chop.Feed, piece string, want []api.Item, left int, over bool) {
	t.Helper()
	if l := f.Take([]byte(piece)); !alike(l, want) {
		t.Errorf("%s: Take(%.60q (%d)) = %s; not %s", promise, piece, len(piece), say(l), say(want))
	}
	checkState(t, promise, f, left, over)
}

// checkNone gives a feed a piece with which nothing comes to be whole.
func checkNone(t *testing.T, promise string, f *chop.Feed, piece string, left int) {
	t.Helper()
	checkTake(t, promise, f, piece, nil, left, false)
}

// checkDead gives a feed that is over all kinds of bytes.
func checkDead(t *testing.T, promise string, f *chop.Feed) {
	t.Helper()
	for _, piece := range []string{"", "\x00", preface, bytesOf(good), fatal[0].bytes, "\xff\xff\xff\xff\xff\xff\xff\xff\xff\xff", good[0].bytes[:8], good[0].bytes[8:]} {
		checkTake(t, promise, f, piece, nil, 0, true)
	}
}

// checkPieces gives a new feed pieces, and holds what it tells of each against
// what items says of as many bytes as came.
func checkPieces(t *testing.T, f *chop.Feed, items func(n int) ([]api.Item, int, bool), pieces ...string) {
	t.Helper()
	n, before := 0, 0
	for _, piece := range pieces {
		n += len(piece)
		all, left, over := items(n)
		checkTake(t, "P7.4", f, piece, all[before:], left, over)
		before = len(all)
	}
	if t.Failed() {
		t.Fatalf("P7.4: these were %d pieces, %.30q ..", len(pieces), pieces[:min(len(pieces), 20)])
	}
}
