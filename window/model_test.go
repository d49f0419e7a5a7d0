package window_test

import (
	"math"
	"testing"

	"drawbridge/api"
	"drawbridge/window"
)

// shortSteps are such as meet each other's edges, when few are done.
func shortSteps() []step {
	return []step{
		open(0), open(1), open(3), shut(0), shut(1), shut(3),
		spend(0, 0), spend(1, 0), spend(1, 1), spend(1, 2), spend(1, wholeOnce), spend(3, 1), spend(3, -1), spend(3, wholeOnce-1),
		grow(0, 1), grow(0, most-wholeOnce), grow(0, most), grow(1, 0), grow(1, 1), grow(1, most-1), grow(1, most), grow(3, 1), grow(3, most+1),
		first(-1), first(0), first(1), first(wholeOnce), first(most - 1), first(most), first(most + 1),
	}
}

// TestShortWays is of P8.1 to P8.6: all rows of few steps; a book and a model answer alike, and are alike.
func TestShortWays(t *testing.T) {
	steps := shortSteps()
	var ways func(m *state, begin int64, done []step, deep int)
	ways = func(m *state, begin int64, done []step, deep int) {
		for _, s := range steps {
			now := m.copied()
			row := append(done[:len(done):len(done)], s)
			checkRow(t, begin, row, now.on(s), now)
			if t.Failed() {
				t.Fatalf("these were New(%d), %v", begin, row)
			}
			if deep > 1 {
				ways(now, begin, row, deep-1)
			}
		}
	}
	for _, begin := range []int64{0, 1, 2, wholeOnce, most - 1, most} {
		for _, done := range [][]step{nil, {open(1)}, {open(1), open(3)}} {
			m := &state{begin, wholeOnce, streams{}}
			for _, s := range done {
				m.on(s)
			}
			ways(m, begin, done, 3)
		}
	}
}

// checkRow does steps on a new book, and holds what the last one answers, and all windows behind it, against a model's.
func checkRow(t *testing.T, begin int64, row []step, want api.Errno, m *state) {
	b, _ := window.New(begin)
	last := len(row) - 1
	for _, s := range row[:last] {
		s.on(b)
	}
	checkStep(t, row[last].promise(), b, row[last], want)
	checkWindows(t, row[last].promise(), b, m)
	checkFirst(t, "P8.6", b, m)
}

// some makes numbers below n, another one each time.
type some struct{ state uint32 }

func (s *some) below(n int) int {
	s.state = s.state*1664525 + 1013904223
	return int(s.state>>8) % n
}

// step: one that often may be done, for what a model has, and often just may or just may not.
func (s *some) step(m *state) step {
	stream := s.below(8) - 1
	at := m.streams[stream]
	if stream == 0 {
		at = m.whole
	}
	near := int64(s.below(3) - 1)
	sizes := []int64{0, 1, 2, 100, 1000, 16384, wholeOnce, most, most + 1, -1, m.room(stream) + near, most - at + near, -at + near, at + near}
	firsts := []int64{0, 1, 100, wholeOnce, most, 1 << 30, m.first + near, m.first - at + near, m.first + most - at + near, int64(s.below(most))}
	size := sizes[s.below(len(sizes))]
	switch s.below(10) {
	case 0, 1:
		return open(stream)
	case 2:
		return shut(stream)
	case 3, 4, 5:
		return spend(stream, size)
	case 6, 7, 8:
		return grow(stream, size)
	}
	return first(firsts[s.below(len(firsts))])
}

// TestLikeModel is of P8.1 to P8.6: a book and a model that are given the same answer alike, and are alike, after each of many steps.
func TestLikeModel(t *testing.T) {
	met := map[api.Errno]int{}
	for run := range uint32(60) {
		s := &some{run}
		begin := []int64{0, 100, wholeOnce, most}[run%4]
		b, m := bookOf(t, begin), &state{begin, wholeOnce, streams{}}
		for range 500 {
			next := s.step(m)
			want := m.on(next)
			met[want]++
			checkStep(t, next.promise(), b, next, want)
			checkWindows(t, next.promise(), b, m)
			if run%2 == 1 { // else what the other checks ask for could hide what a row of steps does
				checkFirst(t, "P8.6", b, m)
			}
			if t.Failed() {
				t.Fatalf("this was %v, run %d", next, run)
			}
		}
	}
	for _, e := range []api.Errno{api.OK, api.ErrArg, api.ErrNone, api.ErrState, api.ErrRange} {
		if met[e] < 100 {
			t.Errorf("the steps met error %d %d times", e, met[e])
		}
	}
}

// account is what was done with windows: sums alone.
type account struct {
	first, grown, spent int64
	streams             map[int]*account // of the connection's
}

// done adds a step that could be done.
func (a *account) done(s step) {
	switch s.name {
	case "Open":
		a.streams[s.stream] = &account{}
	case "Shut":
		delete(a.streams, s.stream)
	case "First":
		a.first = s.n
	case "Spend":
		a.spent += s.n
		a.streams[s.stream].spent += s.n
	case "Grow":
		if s.stream == 0 {
			a.grown += s.n
		} else {
			a.streams[s.stream].grown += s.n
		}
	}
}

// TestAccount is of P8.8: a window is what it was at first, and what it grew, less what was spent; Room is never more than
// either (but 0 at least), and no window is above MaxNumber.
func TestAccount(t *testing.T) {
	for run := range uint32(40) {
		s := &some{1000 + run}
		b, m := bookOf(t, 100), &state{100, wholeOnce, streams{}}
		a := &account{first: 100, streams: map[int]*account{}}
		for range 500 {
			next := s.step(m)
			m.on(next)
			if next.on(b) == api.OK {
				a.done(next)
			}
			checkAccount(t, b, a)
			if t.Failed() {
				t.Fatalf("this was %v, run %d", next, run)
			}
		}
	}
}

// checkAccount holds a book against what was done.
func checkAccount(t *testing.T, b *window.Book, a *account) {
	t.Helper()
	whole, _ := b.At(0)
	if whole != wholeOnce+a.grown-a.spent || whole > most || b.Len() != len(a.streams) {
		t.Errorf("P8.8: the connection's window is %d, %d streams; it grew %d, %d were spent, %d streams", whole, b.Len(), a.grown, a.spent, len(a.streams))
	}
	for stream, one := range a.streams {
		n, ok := b.At(stream)
		if n != a.first+one.grown-one.spent || !ok || n > most {
			t.Errorf("P8.8: At(%d) = %d, %v; the beginning is %d, it grew %d, %d were spent", stream, n, ok, a.first, one.grown, one.spent)
		}
		if room := b.Room(stream); room < 0 || room > 0 && (room > n || room > whole) {
			t.Errorf("P8.8: Room(%d) = %d, of %d and %d", stream, room, n, whole)
		}
	}
}

// TestRefusedTwice is of P8.4 to P8.6: what is refused is refused again, and what may be done behind it is done as if it hadn't been asked.
func TestRefusedTwice(t *testing.T) {
	b := bookOf(t, 100, open(1), open(3), spend(1, 60), grow(3, 7))
	refused := map[step]api.Errno{
		open(1): api.ErrState, open(-1): api.ErrArg, spend(1, 41): api.ErrRange, spend(1, math.MinInt64): api.ErrRange, spend(5, 0): api.ErrNone,
		grow(1, most): api.ErrRange, grow(0, most): api.ErrRange, grow(5, 1): api.ErrNone, grow(1, -40): api.ErrArg, first(most): api.ErrRange, first(-100): api.ErrArg,
	}
	for range 3 {
		for s, e := range refused {
			checkStep(t, s.promise(), b, s, e)
		}
	}
	checkBook(t, "P8.5", b, 100, 65475, streams{1: 40, 3: 107})
	for _, s := range []step{spend(1, 40), spend(3, 107), grow(1, most), grow(0, most-65328), first(0), open(5)} {
		checkStep(t, s.promise(), b, s, api.OK)
	}
	checkBook(t, "P8.5", b, 0, most, streams{1: most - 100, 3: -100, 5: 0})
}
