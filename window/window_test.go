package window_test

import (
	"math"
	"testing"

	"drawbridge/api"
	"drawbridge/window"
)

// TestExamples is of P8.1 to P8.6: the chapter's own.
func TestExamples(t *testing.T) {
	b := bookOf(t, 100, open(1), spend(1, 60))
	checkBook(t, "P8.4", b, 100, 65475, streams{1: 40})
	checkStep(t, "P8.6", b, first(10), api.OK)
	checkBook(t, "P8.6", b, 10, 65475, streams{1: -50})
	checkStep(t, "P8.5", b, grow(1, 70), api.OK)
	checkBook(t, "P8.5", b, 10, 65475, streams{1: 20})
	checkStep(t, "P8.5", b, grow(1, 2147483647), api.ErrRange)
	checkStep(t, "P8.4", b, spend(1, 21), api.ErrRange)
	checkStep(t, "P8.5", b, grow(3, 1), api.ErrNone)
	checkBook(t, "P8.5", b, 10, 65475, streams{1: 20})
}

// TestNew is of P8.1: no streams, the beginning, and the connection's window, whatever the beginning is.
func TestNew(t *testing.T) {
	for _, n := range []int64{0, 1, 100, wholeOnce - 1, wholeOnce, wholeOnce + 1, 1 << 24, 1 << 30, most - 1, most} {
		checkBook(t, "P8.1", bookOf(t, n), n, wholeOnce, nil)
		checkBook(t, "P8.1", bookOf(t, n, open(1), open(3)), n, wholeOnce, streams{1: n, 3: n})
	}
}

// wrongFirsts are such as no streams' windows may begin with.
func wrongFirsts() []int64 {
	return []int64{-1, -2, -65535, -most, math.MinInt32, -1 << 32, 100 - 1<<32, math.MinInt64, math.MinInt64 + 100, most + 1, most + 2, 1<<32 - 1, 1 << 32, 1<<32 + 100, 1 << 62, math.MaxInt64}
}

// TestNewWrong is of P8.1: no book with a beginning that may not be.
func TestNewWrong(t *testing.T) {
	for _, n := range wrongFirsts() {
		if b, e := window.New(n); b != nil || e != api.ErrArg {
			t.Errorf("P8.1: New(%d) = %v, %d", n, b, e)
		}
	}
}

// TestTwoBooks is of P8.1: what one book is given another one knows nothing of.
func TestTwoBooks(t *testing.T) {
	x, y := bookOf(t, 100, open(1), spend(1, 60)), bookOf(t, 200, open(1), open(3), grow(0, 7))
	checkStep(t, "P8.6", x, first(50), api.OK)
	checkBook(t, "P8.1", x, 50, 65475, streams{1: -10})
	checkBook(t, "P8.1", y, 200, 65542, streams{1: 200, 3: 200})
	x.Shut(1)
	checkBook(t, "P8.1", y, 200, 65542, streams{1: 200, 3: 200})
}

// TestOpen is of P8.2: each stream has the beginning as it is then, whatever others have.
func TestOpen(t *testing.T) {
	b := bookOf(t, 100, open(1), spend(1, 60), open(5), grow(5, 9))
	checkBook(t, "P8.2", b, 100, 65475, streams{1: 40, 5: 109})
	checkStep(t, "P8.2", b, open(3), api.OK)
	checkStep(t, "P8.2", b, open(2), api.OK)
	checkBook(t, "P8.2", b, 100, 65475, streams{1: 40, 5: 109, 3: 100, 2: 100})
	checkStep(t, "P8.6", b, first(70), api.OK)
	checkStep(t, "P8.2", b, open(7), api.OK)
	checkBook(t, "P8.2", b, 70, 65475, streams{1: 10, 5: 79, 3: 70, 2: 70, 7: 70})
}

// TestFarStreams is of P8.2: any number above 0 is a stream's, and another one's than all others.
func TestFarStreams(t *testing.T) {
	b := bookOf(t, 100)
	want := streams{}
	for i, stream := range []int{1, most, most + 1, most + 2, 1 << 32, 1<<32 + 1, 1<<32 + 2, 1 << 62, math.MaxInt - 1, math.MaxInt} {
		checkStep(t, "P8.2", b, open(stream), api.OK)
		checkStep(t, "P8.5", b, grow(stream, int64(i+1)), api.OK)
		want[stream] = 101 + int64(i)
		checkBook(t, "P8.2", b, 100, wholeOnce, want)
	}
	for stream := range want {
		checkStep(t, "P8.2", b, open(stream), api.ErrState)
	}
	checkBook(t, "P8.2", b, 100, wholeOnce, want)
}

// TestManyStreams is of P8.2: far more than a connection has.
func TestManyStreams(t *testing.T) {
	b := bookOf(t, 9)
	want := streams{}
	for stream := 1; stream <= 1000; stream++ {
		checkStep(t, "P8.2", b, open(stream), api.OK)
		want[stream] = 9
	}
	spent := int64(0)
	for stream := 1; stream <= 1000; stream += 3 {
		n := int64(stream % 10)
		checkStep(t, "P8.4", b, spend(stream, n), api.OK)
		want[stream] -= n
		spent += n
	}
	checkBook(t, "P8.2", b, 9, wholeOnce-spent, want)
	for stream := 1; stream <= 1000; stream += 2 {
		b.Shut(stream)
		delete(want, stream)
	}
	checkBook(t, "P8.2", b, 9, wholeOnce-spent, want)
}

// TestOpenWrong is of P8.2: what is no stream's number, and a stream that has a window, of whatever size.
func TestOpenWrong(t *testing.T) {
	b := bookOf(t, 100, open(1), open(3), open(5), open(7), spend(1, 60), spend(3, 100), first(50), grow(5, 9))
	for range 2 {
		for _, stream := range []int{0, -1, -2, -3, -most, -1 << 32, 1 - 1<<32, math.MinInt, math.MinInt + 1} {
			checkStep(t, "P8.2", b, open(stream), api.ErrArg)
		}
		for _, stream := range []int{1, 3, 5, 7} {
			checkStep(t, "P8.2", b, open(stream), api.ErrState)
		}
		checkBook(t, "P8.2", b, 50, 65375, streams{1: -10, 3: -50, 5: 59, 7: 50})
	}
}

// TestShut is of P8.2: the stream's window goes, no other one; where there is none, nothing does.
func TestShut(t *testing.T) {
	b := bookOf(t, 100, open(1), open(3), open(5), spend(1, 60), spend(3, 7), grow(5, 9))
	for _, stream := range []int{3, 3, 0, -1, -3, 7, 1<<32 + 1, math.MinInt, math.MaxInt} {
		b.Shut(stream)
		checkBook(t, "P8.2", b, 100, 65468, streams{1: 40, 5: 109})
	}
	checkStep(t, "P8.4", b, spend(3, 0), api.ErrNone)
	checkStep(t, "P8.5", b, grow(3, 1), api.ErrNone)
	b.Shut(1)
	checkBook(t, "P8.2", b, 100, 65468, streams{5: 109})
	b.Shut(5)
	b.Shut(5)
	checkBook(t, "P8.2", b, 100, 65468, nil)
}

// TestOpenAgain is of P8.2: a stream that was shut begins anew; what it spent of the connection's window stays spent.
func TestOpenAgain(t *testing.T) {
	for _, s := range []step{spend(1, 60), spend(1, 100), grow(1, 60), grow(1, most-100)} {
		b := bookOf(t, 100, open(1), open(3), s, shut(1), open(1))
		spent := int64(0)
		if s.name == "Spend" {
			spent = s.n
		}
		checkBook(t, "P8.2", b, 100, wholeOnce-spent, streams{1: 100, 3: 100})
		checkStep(t, "P8.2", b, open(1), api.ErrState)
		checkStep(t, "P8.4", b, spend(1, 100), api.OK)
		checkBook(t, "P8.4", b, 100, wholeOnce-spent-100, streams{1: 0, 3: 100})
	}
	b := bookOf(t, 100, open(1), spend(1, 60), shut(1), first(30), open(1))
	checkBook(t, "P8.2", b, 30, 65475, streams{1: 30})
}

// TestRoom is of P8.3: the lesser window, 0 at least.
func TestRoom(t *testing.T) {
	for _, r := range []struct {
		what  string
		b     *window.Book
		at    int64
		whole int64
		room  int64
	}{
		{"the stream's is the lesser one", bookOf(t, 100, open(1)), 100, wholeOnce, 100},
		{"by one", bookOf(t, wholeOnce-1, open(1)), wholeOnce - 1, wholeOnce, wholeOnce - 1},
		{"they are as great", bookOf(t, wholeOnce, open(1)), wholeOnce, wholeOnce, wholeOnce},
		{"the connection's is the lesser one by one", bookOf(t, wholeOnce+1, open(1)), wholeOnce + 1, wholeOnce, wholeOnce},
		{"far", bookOf(t, most, open(1)), most, wholeOnce, wholeOnce},
		{"by what another stream spent", bookOf(t, 65000, open(1), open(3), spend(3, 65000)), 65000, 535, 535},
		{"nothing is left of the connection's", bookOf(t, 65000, open(1), open(3), spend(3, 65000), spend(1, 535)), 64465, 0, 0},
		{"of neither", bookOf(t, wholeOnce, open(1), spend(1, wholeOnce)), 0, 0, 0},
		{"of the stream's", bookOf(t, 100, open(1), spend(1, 100)), 0, 65435, 0},
		{"it begins with nothing", bookOf(t, 0, open(1)), 0, wholeOnce, 0},
		{"just one", bookOf(t, 0, open(1), grow(1, 1)), 1, wholeOnce, 1},
		{"below 0", bookOf(t, 100, open(1), spend(1, 60), first(59)), 41 - 42, 65475, 0},
		{"far below", bookOf(t, most, open(1), spend(1, wholeOnce), first(0), grow(0, 7)), -wholeOnce, 7, 0},
		{"below 0, and nothing of the connection's", bookOf(t, wholeOnce, open(1), spend(1, wholeOnce), first(1)), 1 - wholeOnce, 0, 0},
		{"both are as great as may be", bookOf(t, most, open(1), grow(0, most-wholeOnce)), most, most, most},
		{"the connection's alone is", bookOf(t, most-1, open(1), grow(0, most-wholeOnce)), most - 1, most, most - 1},
	} {
		n, ok := r.b.At(1)
		whole, _ := r.b.At(0)
		if room := r.b.Room(1); n != r.at || !ok || whole != r.whole || room != r.room {
			t.Errorf("P8.3: %s: %d, %d, room %d; not %d, %d, room %d", r.what, n, whole, room, r.at, r.whole, r.room)
		}
	}
}

// TestRoomEach is of P8.3: of several streams each has its own room, under the connection's window, which they share.
func TestRoomEach(t *testing.T) {
	b := bookOf(t, 40000, open(1), open(3), open(5), spend(1, 30000), grow(5, 5000))
	checkBook(t, "P8.3", b, 40000, 35535, streams{1: 10000, 3: 40000, 5: 45000})
	checkStep(t, "P8.4", b, spend(3, 35000), api.OK)
	checkBook(t, "P8.3", b, 40000, 535, streams{1: 10000, 3: 5000, 5: 45000})
	checkStep(t, "P8.6", b, first(35001), api.OK)
	checkBook(t, "P8.3", b, 35001, 535, streams{1: 5001, 3: 1, 5: 40001})
	for stream, room := range map[int]int64{0: 0, 1: 535, 3: 1, 5: 535, 7: 0, -1: 0, math.MinInt: 0, math.MaxInt: 0} {
		if n := b.Room(stream); n != room {
			t.Errorf("P8.3: Room(%d) = %d, not %d", stream, n, room)
		}
	}
}

// TestNoBook is of P8.7.
func TestNoBook(t *testing.T) {
	var b *window.Book
	for range 2 {
		for _, stream := range append(others(), 0) {
			checkNone(t, "P8.7", b, stream)
			checkStep(t, "P8.7", b, open(stream), api.ErrArg)
			for _, n := range append(wrongFirsts(), 0, 1, 100, wholeOnce, most) {
				checkStep(t, "P8.7", b, spend(stream, n), api.ErrArg)
				checkStep(t, "P8.7", b, grow(stream, n), api.ErrArg)
				checkStep(t, "P8.7", b, first(n), api.ErrArg)
			}
			b.Shut(stream)
			if b.Len() != 0 {
				t.Errorf("P8.7: Len() = %d", b.Len())
			}
		}
	}
}
