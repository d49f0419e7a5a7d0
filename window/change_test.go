package window_test

import (
	"math"
	"testing"

	"drawbridge/api"
)

// TestSpend is of P8.4: the stream's window and the connection's are less, no other one.
func TestSpend(t *testing.T) {
	b := bookOf(t, 100, open(1), open(3), open(5))
	for _, r := range []struct {
		s     step
		whole int64
		want  streams
	}{
		{spend(1, 1), 65534, streams{1: 99, 3: 100, 5: 100}},
		{spend(3, 40), 65494, streams{1: 99, 3: 60, 5: 100}},
		{spend(1, 9), 65485, streams{1: 90, 3: 60, 5: 100}},
		{spend(5, 0), 65485, streams{1: 90, 3: 60, 5: 100}},
		{spend(5, 100), 65385, streams{1: 90, 3: 60, 5: 0}},
		{spend(5, 0), 65385, streams{1: 90, 3: 60, 5: 0}},
		{spend(1, 90), 65295, streams{1: 0, 3: 60, 5: 0}},
	} {
		checkStep(t, "P8.4", b, r.s, api.OK)
		checkBook(t, "P8.4", b, 100, r.whole, r.want)
	}
}

// TestSpendEnds is of P8.4: just Room may go, and not one more, whichever window is the lesser one.
func TestSpendEnds(t *testing.T) {
	for _, r := range []struct{ begin, whole, room int64 }{
		{0, wholeOnce, 0}, {1, wholeOnce, 1}, {100, wholeOnce, 100}, {wholeOnce - 1, wholeOnce, wholeOnce - 1},
		{wholeOnce, wholeOnce, wholeOnce}, {wholeOnce + 1, wholeOnce, wholeOnce}, {most, wholeOnce, wholeOnce},
		{most - 1, most, most - 1}, {most, most, most}, {most, most - 1, most - 1}, {1 << 30, 1<<30 + 1, 1 << 30}, {1<<30 + 1, 1 << 30, 1 << 30},
	} {
		b := bookOf(t, r.begin, open(1), open(3))
		if r.whole > wholeOnce {
			checkStep(t, "P8.5", b, grow(0, r.whole-wholeOnce), api.OK)
		}
		for _, n := range []int64{r.room + 1, r.room + 2, 2 * r.room, 1<<32 + r.room, math.MaxInt64, -1} {
			if n != r.room {
				checkStep(t, "P8.4", b, spend(1, n), api.ErrRange)
			}
			checkBook(t, "P8.4", b, r.begin, r.whole, streams{1: r.begin, 3: r.begin})
		}
		checkStep(t, "P8.4", b, spend(1, r.room), api.OK)
		checkBook(t, "P8.4", b, r.begin, r.whole-r.room, streams{1: r.begin - r.room, 3: r.begin})
		checkStep(t, "P8.4", b, spend(1, 1), api.ErrRange)
		checkStep(t, "P8.4", b, spend(1, 0), api.OK)
		checkBook(t, "P8.4", b, r.begin, r.whole-r.room, streams{1: r.begin - r.room, 3: r.begin})
	}
}

// TestSpendShared is of P8.4: what one stream spends of the connection's window no other one may.
func TestSpendShared(t *testing.T) {
	b := bookOf(t, 40000, open(1), open(3), spend(1, 40000))
	checkStep(t, "P8.4", b, spend(3, 25536), api.ErrRange)
	checkStep(t, "P8.4", b, spend(3, 25535), api.OK)
	checkBook(t, "P8.4", b, 40000, 0, streams{1: 0, 3: 14465})
	checkStep(t, "P8.4", b, spend(3, 1), api.ErrRange)
	checkStep(t, "P8.5", b, grow(0, 5), api.OK)
	checkStep(t, "P8.4", b, spend(1, 1), api.ErrRange)
	checkStep(t, "P8.4", b, spend(3, 6), api.ErrRange)
	checkStep(t, "P8.4", b, spend(3, 5), api.OK)
	checkBook(t, "P8.4", b, 40000, 0, streams{1: 0, 3: 14460})
}

// TestSpendBelow is of P8.4: nothing goes of a window that isn't above 0, but 0 bytes.
func TestSpendBelow(t *testing.T) {
	b := bookOf(t, 100, open(1), open(3), spend(1, 60))
	for _, below := range []int64{60, 59, 10, 0} {
		checkStep(t, "P8.6", b, first(below), api.OK)
		want := streams{1: below - 60, 3: below}
		for _, n := range []int64{1, 2, 60, -1, below - 60 - 1, 60 - below + 1, most} {
			checkStep(t, "P8.4", b, spend(1, n), api.ErrRange)
			checkBook(t, "P8.4", b, below, 65475, want)
		}
		checkStep(t, "P8.4", b, spend(1, 0), api.OK)
		checkBook(t, "P8.4", b, below, 65475, want)
	}
	checkStep(t, "P8.5", b, grow(1, 61), api.OK)
	checkStep(t, "P8.4", b, spend(1, 2), api.ErrRange)
	checkStep(t, "P8.4", b, spend(1, 1), api.OK)
	checkBook(t, "P8.4", b, 0, 65474, streams{1: 0, 3: 0})
}

// TestSpendWrong is of P8.4: a stream that has no window goes ahead of a number that may not be; nothing has changed.
func TestSpendWrong(t *testing.T) {
	b := bookOf(t, 100, open(1), open(3), open(5), spend(1, 60), spend(3, 7), first(50), shut(5))
	want := streams{1: -10, 3: 43}
	for _, n := range []int64{0, 1, -1, 43, 44, 100, wholeOnce, wholeOnce + 1, most, most + 1, math.MinInt64, math.MaxInt64} {
		for _, stream := range []int{0, -1, 2, 5, 7, -3, 1<<32 + 1, 3 - 1<<32, math.MinInt, math.MaxInt} {
			checkStep(t, "P8.4", b, spend(stream, n), api.ErrNone)
			checkBook(t, "P8.4", b, 50, 65468, want)
		}
	}
	for _, n := range []int64{-1, -2, -43, -wholeOnce, -most, 1 - 1<<32, math.MinInt64, math.MinInt64 + 1, 44, wholeOnce, most, 1 << 32, 1<<32 + 1, math.MaxInt64} {
		for _, stream := range []int{1, 3} {
			checkStep(t, "P8.4", b, spend(stream, n), api.ErrRange)
			checkBook(t, "P8.4", b, 50, 65468, want)
		}
	}
}

// TestGrow is of P8.5: the one window is more, no other one.
func TestGrow(t *testing.T) {
	b := bookOf(t, 100, open(1), open(3), open(5), spend(3, 100), spend(5, 90), first(50))
	for _, r := range []struct {
		s     step
		whole int64
		want  streams
	}{
		{grow(1, 1), 65345, streams{1: 51, 3: -50, 5: -40}},
		{grow(3, 49), 65345, streams{1: 51, 3: -1, 5: -40}},
		{grow(3, 1), 65345, streams{1: 51, 3: 0, 5: -40}},
		{grow(3, 1), 65345, streams{1: 51, 3: 1, 5: -40}},
		{grow(0, 1), 65346, streams{1: 51, 3: 1, 5: -40}},
		{grow(5, 1000000), 65346, streams{1: 51, 3: 1, 5: 999960}},
		{grow(0, 1000000), 1065346, streams{1: 51, 3: 1, 5: 999960}},
	} {
		checkStep(t, "P8.5", b, r.s, api.OK)
		checkBook(t, "P8.5", b, 50, r.whole, r.want)
	}
}

// TestGrowWhole is of P8.5: the connection's window, to just MaxNumber and to one more, with streams beside it and without.
func TestGrowWhole(t *testing.T) {
	const more = most - wholeOnce
	for _, list := range []streams{nil, {1: 100}, {1: 100, 3: 100}} {
		b := bookOf(t, 100)
		for stream := range list {
			checkStep(t, "P8.2", b, open(stream), api.OK)
		}
		for _, n := range []int64{more + 1, more + 2, most - 1, most} {
			checkStep(t, "P8.5", b, grow(0, n), api.ErrRange)
			checkBook(t, "P8.5", b, 100, wholeOnce, list)
		}
		checkStep(t, "P8.5", b, grow(0, more-1), api.OK)
		checkStep(t, "P8.5", b, grow(0, 2), api.ErrRange)
		checkBook(t, "P8.5", b, 100, most-1, list)
		checkStep(t, "P8.5", b, grow(0, 1), api.OK)
		checkBook(t, "P8.5", b, 100, most, list)
		for _, n := range []int64{1, 2, most} {
			checkStep(t, "P8.5", b, grow(0, n), api.ErrRange)
			checkBook(t, "P8.5", b, 100, most, list)
		}
	}
	b := bookOf(t, wholeOnce, open(1), spend(1, wholeOnce-1))
	checkStep(t, "P8.5", b, grow(0, most), api.ErrRange)
	checkStep(t, "P8.4", b, spend(1, 1), api.OK)
	checkStep(t, "P8.5", b, grow(0, most), api.OK)
	checkBook(t, "P8.5", b, wholeOnce, most, streams{1: 0})
}

// TestGrowStream is of P8.5: a stream's window, to just MaxNumber and to one more, wherever it is.
func TestGrowStream(t *testing.T) {
	for _, at := range []int64{0, 1, 100, wholeOnce, 1 << 30, most - 2, most - 1, most} {
		b := bookOf(t, at, open(1), open(3))
		want := streams{1: at, 3: at}
		for _, n := range []int64{most - at + 1, most - at + 2, most} {
			if n <= most && at+n > most {
				checkStep(t, "P8.5", b, grow(1, n), api.ErrRange)
				checkBook(t, "P8.5", b, at, wholeOnce, want)
			}
		}
		if at < most {
			checkStep(t, "P8.5", b, grow(1, most-at), api.OK)
			want[1] = most
		}
		checkBook(t, "P8.5", b, at, wholeOnce, want)
		for _, n := range []int64{1, most} {
			checkStep(t, "P8.5", b, grow(1, n), api.ErrRange)
			checkBook(t, "P8.5", b, at, wholeOnce, want)
		}
	}
}

// TestGrowBelow is of P8.5: by MaxNumber, from a window that is below 0.
func TestGrowBelow(t *testing.T) {
	b := bookOf(t, 100, open(1), spend(1, 60), first(10))
	checkStep(t, "P8.5", b, grow(1, most), api.OK)
	checkBook(t, "P8.5", b, 10, 65475, streams{1: most - 50})
	checkStep(t, "P8.5", b, grow(1, 51), api.ErrRange)
	checkStep(t, "P8.5", b, grow(1, 50), api.OK)
	checkBook(t, "P8.5", b, 10, 65475, streams{1: most})
	b = bookOf(t, most, open(1), grow(0, most-wholeOnce), spend(1, most), first(0))
	checkBook(t, "P8.6", b, 0, 0, streams{1: -most})
	checkStep(t, "P8.5", b, grow(1, most), api.OK)
	checkBook(t, "P8.5", b, 0, 0, streams{1: 0})
	checkStep(t, "P8.5", b, grow(1, most), api.OK)
	checkBook(t, "P8.5", b, 0, 0, streams{1: most})
}

// TestGrowWrong is of P8.5: a number that may not be goes ahead of a stream that has no window, and of one that would have too much.
func TestGrowWrong(t *testing.T) {
	b := bookOf(t, 100, open(1), open(3), open(5), grow(3, most-100), grow(0, most-wholeOnce), shut(5))
	want := streams{1: 100, 3: most}
	none := []int{-1, 2, 5, 7, -3, 1<<32 + 1, 3 - 1<<32, math.MinInt, math.MaxInt}
	for _, n := range append(wrongFirsts(), 0) {
		for _, stream := range append(none, 0, 1, 3) {
			checkStep(t, "P8.5", b, grow(stream, n), api.ErrArg)
			checkBook(t, "P8.5", b, 100, most, want)
		}
	}
	for _, n := range []int64{1, 2, 100, wholeOnce, most - 1, most} {
		for _, stream := range none {
			checkStep(t, "P8.5", b, grow(stream, n), api.ErrNone)
			checkBook(t, "P8.5", b, 100, most, want)
		}
		for _, stream := range []int{0, 3} {
			checkStep(t, "P8.5", b, grow(stream, n), api.ErrRange)
			checkBook(t, "P8.5", b, 100, most, want)
		}
	}
}

// TestFirst is of P8.6: all streams' windows are as much more or less; the connection's stays.
func TestFirst(t *testing.T) {
	b := bookOf(t, 100, open(1), open(3), open(5), spend(1, 60), grow(5, 7))
	for _, n := range []int64{100, 101, 60, 59, 0, 1, 100, 65535, 1 << 30, 0, most - 7, 100, 61} {
		checkStep(t, "P8.6", b, first(n), api.OK)
		checkBook(t, "P8.6", b, n, 65475, streams{1: n - 60, 3: n, 5: n + 7})
	}
	checkStep(t, "P8.4", b, spend(1, 1), api.OK)
	checkStep(t, "P8.2", b, open(7), api.OK)
	b.Shut(3)
	checkBook(t, "P8.6", b, 61, 65474, streams{1: 0, 5: 68, 7: 61})
	checkStep(t, "P8.6", b, first(71), api.OK)
	checkBook(t, "P8.6", b, 71, 65474, streams{1: 10, 5: 78, 7: 71})
}

// TestFirstWhole is of P8.6: the connection's window plays no part, however much it has.
func TestFirstWhole(t *testing.T) {
	b := bookOf(t, 0, grow(0, most-wholeOnce))
	for _, n := range []int64{most, 0, 1, most - 1, most} {
		checkStep(t, "P8.6", b, first(n), api.OK)
		checkBook(t, "P8.6", b, n, most, nil)
	}
	b = bookOf(t, wholeOnce, open(1), spend(1, wholeOnce), first(0))
	checkBook(t, "P8.6", b, 0, 0, streams{1: -wholeOnce})
}

// TestFirstEnds is of P8.6: of several streams one would have just MaxNumber, and one more: then nothing has changed, of no stream.
func TestFirstEnds(t *testing.T) {
	for _, great := range []int{1, 3, 5, 7, 9} {
		for _, more := range []int64{1, 7, 1 << 20, most - 100} {
			b := bookOf(t, 100, open(1), open(3), open(5), open(7), open(9), grow(great, more))
			want := streams{1: 100, 3: 100, 5: 100, 7: 100, 9: 100}
			want[great] += more
			for _, n := range []int64{most - more + 1, most} {
				checkStep(t, "P8.6", b, first(n), api.ErrRange)
				checkBook(t, "P8.6", b, 100, wholeOnce, want)
			}
			checkStep(t, "P8.6", b, first(most-more), api.OK)
			for stream := range want {
				want[stream] += most - more - 100
			}
			checkBook(t, "P8.6", b, most-more, wholeOnce, want)
			checkStep(t, "P8.6", b, first(most-more+1), api.ErrRange)
			checkBook(t, "P8.6", b, most-more, wholeOnce, want)
			b.Shut(great)
			checkStep(t, "P8.6", b, first(most), api.OK)
			checkBook(t, "P8.6", b, most, wholeOnce, allOf(want, great, most))
		}
	}
}

// allOf: of all streams but one the same window.
func allOf(list streams, without int, size int64) streams {
	all := streams{}
	for stream := range list {
		if stream != without {
			all[stream] = size
		}
	}
	return all
}

// TestFirstSpent is of P8.6: what was spent leaves room for as great a beginning as may be.
func TestFirstSpent(t *testing.T) {
	b := bookOf(t, 100, open(1), spend(1, 60), first(most))
	checkBook(t, "P8.6", b, most, 65475, streams{1: most - 60})
	checkStep(t, "P8.5", b, grow(1, 60), api.OK)
	checkStep(t, "P8.6", b, first(0), api.OK)
	checkBook(t, "P8.6", b, 0, 65475, streams{1: 0})
	checkStep(t, "P8.6", b, first(most), api.OK)
	checkStep(t, "P8.6", b, first(most-1), api.OK)
	checkStep(t, "P8.5", b, grow(1, 1), api.OK)
	checkStep(t, "P8.6", b, first(most-1), api.OK)
	checkStep(t, "P8.6", b, first(most), api.ErrRange)
	checkBook(t, "P8.6", b, most-1, 65475, streams{1: most})
}

// TestFirstWrong is of P8.6: a number that may not be goes ahead of a stream that would have too much.
func TestFirstWrong(t *testing.T) {
	for _, b := range []int64{0, 100, most} {
		checkWrongFirsts(t, b, nil)
		checkWrongFirsts(t, b, streams{1: b})
		checkWrongFirsts(t, b, streams{1: most, 3: most, 5: b})
		checkWrongFirsts(t, b, streams{1: b, 3: most - 1})
	}
}

// checkWrongFirsts gives a book with these windows each beginning that may not be.
func checkWrongFirsts(t *testing.T, begin int64, list streams) {
	t.Helper()
	b := bookOf(t, begin)
	want := streams{}
	for stream, size := range list {
		checkStep(t, "P8.2", b, open(stream), api.OK)
		want[stream] = max(begin, size)
		if size > begin {
			checkStep(t, "P8.5", b, grow(stream, size-begin), api.OK)
		}
	}
	for _, n := range wrongFirsts() {
		checkStep(t, "P8.6", b, first(n), api.ErrArg)
		checkBook(t, "P8.6", b, begin, wholeOnce, want)
	}
}
