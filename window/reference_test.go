package window_test

import (
	"fmt"
	"math"
	"testing"

	"drawbridge/api"
	"drawbridge/window"
)

const (
	most      = 1<<31 - 1 // of a window
	wholeOnce = 65535     // the connection's window at first
)

// state is what a book should have: the beginning, the connection's window, and
// each stream's as it is.
type state struct {
	first, whole int64
	streams      map[int]int64
}

// streams: windows by streams.
type streams = map[int]int64

// step is a call that changes a book.
type step struct {
	name   string
	stream int
	n      int64
}

func open(stream int) step           { return step{"Open", stream, 0} }
func shut(stream int) step           { return step{"Shut", stream, 0} }
func spend(stream int, n int64) step { return step{"Spend", stream, n} }
func grow(stream int, n int64) step  { return step{"Grow", stream, n} }
func first(n int64) step             { return step{"First", 0, n} }

func (s step) String() string { return fmt.Sprintf("%s(%d, %d)", s.name, s.stream, s.n) }

// promise: whose step it is.
func (s step) promise() string {
	switch s.name {
	case "Spend":
		return "P8.4"
	case "Grow":
		return "P8.5"
	case "First":
		return "P8.6"
	}
	return "P8.2"
}

// on does a step on a book.
func (s step) on(b *window.Book) api.Errno {
	switch s.name {
	case "Open":
		return b.Open(s.stream)
	case "Spend":
		return b.Spend(s.stream, s.n)
	case "Grow":
		return b.Grow(s.stream, s.n)
	case "First":
		return b.First(s.n)
	}
	b.Shut(s.stream)
	return api.OK
}

// The model: what the chapter says, each window kept as it is.

// on does a step on a model.
func (m *state) on(s step) api.Errno {
	switch s.name {
	case "Open":
		return m.open(s.stream)
	case "Spend":
		return m.spend(s.stream, s.n)
	case "Grow":
		return m.grow(s.stream, s.n)
	case "First":
		return m.begin(s.n)
	}
	delete(m.streams, s.stream)
	return api.OK
}

func (m *state) open(stream int) api.Errno {
	if stream < 1 {
		return api.ErrArg
	}
	if _, ok := m.streams[stream]; ok {
		return api.ErrState
	}
	m.streams[stream] = m.first
	return api.OK
}

// room: what may go of a stream.
func (m *state) room(stream int) int64 {
	n, ok := m.streams[stream]
	if !ok || n < 0 || m.whole < 0 {
		return 0
	}
	if n > m.whole {
		return m.whole
	}
	return n
}

func (m *state) spend(stream int, n int64) api.Errno {
	if _, ok := m.streams[stream]; !ok {
		return api.ErrNone
	}
	if n < 0 || n > m.room(stream) {
		return api.ErrRange
	}
	m.streams[stream] -= n
	m.whole -= n
	return api.OK
}

func (m *state) grow(stream int, n int64) api.Errno {
	if n < 1 || n > most {
		return api.ErrArg
	}
	was, ok := m.streams[stream]
	if stream == 0 {
		was, ok = m.whole, true
	}
	if !ok {
		return api.ErrNone
	}
	if was+n > most {
		return api.ErrRange
	}
	if stream == 0 {
		m.whole += n
	} else {
		m.streams[stream] += n
	}
	return api.OK
}

func (m *state) begin(n int64) api.Errno {
	if n < 0 || n > most {
		return api.ErrArg
	}
	for _, was := range m.streams {
		if was+n-m.first > most {
			return api.ErrRange
		}
	}
	for stream := range m.streams {
		m.streams[stream] += n - m.first
	}
	m.first = n
	return api.OK
}

// copied: a model like another one, that goes on by itself.
func (m *state) copied() *state {
	c := &state{m.first, m.whole, streams{}}
	for stream, n := range m.streams {
		c.streams[stream] = n
	}
	return c
}

// Checks.

// bookOf makes a book on which steps were done, all of which may be.
func bookOf(t *testing.T, begin int64, steps ...step) *window.Book {
	t.Helper()
	b, e := window.New(begin)
	if b == nil || e != api.OK {
		t.Fatalf("P8.1: New(%d): %d", begin, e)
	}
	for _, s := range steps {
		checkStep(t, s.promise(), b, s, api.OK)
	}
	return b
}

// checkStep does a step, and holds what it answers against what is asked for.
func checkStep(t *testing.T, promise string, b *window.Book, s step, want api.Errno) {
	t.Helper()
	if e := s.on(b); e != want {
		t.Errorf("%s: %v: %d, not %d", promise, s, e, want)
	}
}

// checkNone asks for windows of what has none.
func checkNone(t *testing.T, promise string, b *window.Book, stream int) {
	t.Helper()
	if n, ok := b.At(stream); n != 0 || ok {
		t.Errorf("%s: At(%d) = %d, %v; there is none", promise, stream, n, ok)
	}
	if n := b.Room(stream); n != 0 {
		t.Errorf("%s: Room(%d) = %d; there is none", promise, stream, n)
	}
}

// others are streams of which most books have none.
func others() []int {
	return []int{-1, -2, math.MinInt, 1, 2, 3, 4, 5, 7, 9, 11, most, most + 1, 1<<32 + 1, math.MaxInt}
}

// checkWindows holds every window of a book against those that are asked for.
func checkWindows(t *testing.T, promise string, b *window.Book, want *state) {
	t.Helper()
	if b.Len() != len(want.streams) {
		t.Errorf("%s: Len() = %d, not %d", promise, b.Len(), len(want.streams))
	}
	if n, ok := b.At(0); n != want.whole || !ok {
		t.Errorf("%s: At(0) = %d, %v; not %d", promise, n, ok, want.whole)
	}
	if n := b.Room(0); n != 0 {
		t.Errorf("%s: Room(0) = %d", promise, n)
	}
	for stream, size := range want.streams {
		if n, ok := b.At(stream); n != size || !ok {
			t.Errorf("%s: At(%d) = %d, %v; not %d", promise, stream, n, ok, size)
		}
		if n := b.Room(stream); n != want.room(stream) {
			t.Errorf("%s: Room(%d) = %d, not %d", promise, stream, n, want.room(stream))
		}
	}
	for _, stream := range others() {
		if _, ok := want.streams[stream]; !ok {
			checkNone(t, promise, b, stream)
		}
	}
}

// checkFirst tells the beginning by a stream that is opened, and shut again.
func checkFirst(t *testing.T, promise string, b *window.Book, want *state) {
	t.Helper()
	const unused = 1<<30 + 1
	checkStep(t, promise, b, open(unused), api.OK)
	if n, ok := b.At(unused); n != want.first || !ok {
		t.Errorf("%s: a new stream has %d, %v; not %d", promise, n, ok, want.first)
	}
	b.Shut(unused)
	checkNone(t, promise, b, unused)
}

// checkBook holds all that a book has against what is asked for.
func checkBook(t *testing.T, promise string, b *window.Book, begin, whole int64, list streams) {
	t.Helper()
	want := &state{begin, whole, list}
	checkWindows(t, promise, b, want)
	checkFirst(t, promise, b, want)
	checkWindows(t, promise, b, want)
}
