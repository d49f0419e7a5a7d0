package chop_test

import (
	"bytes"
	"math"
	"runtime"
	"strings"
	"testing"

	"drawbridge/api"
	"drawbridge/chop"
)

// TestExamples is of P7.2 and P7.3: the chapter's own.
func TestExamples(t *testing.T) {
	f := chop.New(16384, true)
	checkNone(t, "P7.2", f, "PRI * HTTP/2.0", 14)
	checkTake(t, "P7.2", f, "x", []api.Item{wrong(1, 0)}, 0, true)
	f = chop.New(16384, false)
	checkNone(t, "P7.2", f, "\x00\x00\x00\x04", 4)
	settings := came(api.Frame{Type: 4, Flags: 1})
	checkTake(t, "P7.2", f, "\x01\x00\x00\x00\x00"+good[5].bytes+"\x00\x00", []api.Item{settings, good[5].item}, 2, false)
}

// TestNew is of P7.1: nothing came yet.
func TestNew(t *testing.T) {
	for _, most := range []int{math.MinInt, -1, 0, 1, someLimit, maxPayload, math.MaxInt} {
		for _, greeted := range []bool{true, false} {
			f := chop.New(most, greeted)
			checkState(t, "P7.1", f, 0, false)
			checkNone(t, "P7.1", f, "", 0)
		}
	}
}

// TestNewPreface is of P7.1: it is awaited, or it isn't and its bytes are read as a frame's.
func TestNewPreface(t *testing.T) {
	settings := came(api.Frame{Type: 4, Flags: 1})
	for _, most := range []int{-1, 0, 1, 16384, maxPayload} {
		f := chop.New(most, true)
		checkNone(t, "P7.1", f, preface, 0)
		checkTake(t, "P7.1", f, good[1].bytes, []api.Item{settings}, 0, false)
		f = chop.New(most, true)
		checkTake(t, "P7.1", f, good[1].bytes, []api.Item{wrong(1, 0)}, 0, true)
		f = chop.New(most, false)
		checkTake(t, "P7.1", f, good[1].bytes, []api.Item{settings}, 0, false)
	}
	f := chop.New(0x505248, false) // "PRI" is one more
	checkNone(t, "P7.1", f, preface[:8], 8)
	checkTake(t, "P7.1", f, preface[8:], []api.Item{wrong(6, 0)}, 0, true)
	f = chop.New(0x505249, false)
	checkNone(t, "P7.1", f, preface, 24)
}

// TestPrefaceOnce is of P7.2: it stands ahead of all, and at no other place.
func TestPrefaceOnce(t *testing.T) {
	f := chop.New(someLimit, true)
	checkTake(t, "P7.2", f, preface+preface, []api.Item{wrong(6, 0)}, 0, true)
	f = chop.New(someLimit, true)
	checkTake(t, "P7.2", f, preface+good[1].bytes, []api.Item{good[1].item}, 0, false)
	checkTake(t, "P7.2", f, preface, []api.Item{wrong(6, 0)}, 0, true)
}

// TestLimit is of P7.1: a payload just as long as the limit, and one that is longer.
func TestLimit(t *testing.T) {
	for _, size := range []int{1, 2, 5, 255, 256, 16383, 16384, 16385, 65536} {
		b := framed(0, 0, 1, strings.Repeat("x", size))
		item := came(api.Frame{Stream: 1, Data: strings.Repeat("x", size)})
		for _, most := range []int{size, size + 1, maxPayload, maxPayload + 1, math.MaxInt} {
			f := chop.New(most, false)
			checkNone(t, "P7.1", f, b[:headSize], headSize)
			checkNone(t, "P7.1", f, b[headSize:len(b)-1], len(b)-1)
			checkTake(t, "P7.1", f, b[len(b)-1:], []api.Item{item}, 0, false)
			checkTake(t, "P7.1", f, b, []api.Item{item}, 0, false)
		}
		for _, most := range []int{size - 1, 0, -1, -size, math.MinInt} {
			f := chop.New(most, false)
			checkNone(t, "P7.1", f, b[:headSize-1], headSize-1)
			checkTake(t, "P7.1", f, b[headSize-1:headSize], []api.Item{wrong(6, 0)}, 0, true)
			f = chop.New(most, true)
			checkTake(t, "P7.1", f, preface+b, []api.Item{wrong(6, 0)}, 0, true)
		}
	}
}

// TestNoLimit is of P7.1: of a limit below 0, as of 0, frames without a payload are told.
func TestNoLimit(t *testing.T) {
	for _, most := range []int{0, -1, -2, -16384, math.MinInt} {
		for _, greeted := range []string{"", preface} {
			f := chop.New(most, greeted != "")
			checkTake(t, "P7.1", f, greeted+good[1].bytes+good[6].bytes+good[8].bytes, []api.Item{good[1].item, good[6].item, wrong(6, 9)}, 0, false)
			checkNone(t, "P7.1", f, good[5].bytes[:8], 8)
			checkTake(t, "P7.1", f, good[5].bytes[8:], []api.Item{wrong(6, 0)}, 0, true)
		}
	}
}

// TestLongest is of P7.1 and P7.4: the longest payload that a frame can say, with limits that it isn't above, and with one that it is.
func TestLongest(t *testing.T) {
	b := framed(0, 0, 1, strings.Repeat("x", maxPayload))
	item := came(api.Frame{Stream: 1, Data: b[headSize:]})
	for _, most := range []int{maxPayload, maxPayload + 1, 1 << 31, math.MaxInt} {
		f := chop.New(most, false)
		checkNone(t, "P7.4", f, b[:len(b)-1], len(b)-1)
		checkTake(t, "P7.4", f, b[len(b)-1:]+good[1].bytes, []api.Item{item, good[1].item}, 0, false)
	}
	f := chop.New(maxPayload-1, false)
	checkTake(t, "P7.1", f, b, []api.Item{wrong(6, 0)}, 0, true)
}

// TestFeedsApart is of P7.1: what one is given another one doesn't know.
func TestFeedsApart(t *testing.T) {
	f, g := chop.New(someLimit, true), chop.New(5, false)
	checkNone(t, "P7.1", f, preface[:20], 20)
	checkNone(t, "P7.1", g, good[5].bytes[:12], 12)
	checkNone(t, "P7.1", f, preface[20:]+good[0].bytes[:3], 3)
	checkTake(t, "P7.1", g, good[5].bytes[12:]+good[9].bytes, []api.Item{good[5].item, wrong(6, 0)}, 0, true)
	checkTake(t, "P7.1", f, good[0].bytes[3:], []api.Item{good[0].item}, 0, false)
}

// TestNoFeed is of P7.3.
func TestNoFeed(t *testing.T) {
	var f *chop.Feed
	checkState(t, "P7.3", f, 0, true)
	for _, piece := range []string{"", "P", preface, good[1].bytes, bytesOf(good), fatal[0].bytes} {
		checkTake(t, "P7.3", f, piece, nil, 0, true)
	}
	if l := f.Take(nil); len(l) != 0 {
		t.Errorf("P7.3: Take(nil) = %s", say(l))
	}
}

// TestLeft is of P7.3: in the midst of the preface, of nine bytes, of a payload, just ahead of its end and behind it.
func TestLeft(t *testing.T) {
	f := chop.New(someLimit, true)
	for i := range len(preface) - 1 {
		checkNone(t, "P7.3", f, preface[i:i+1], i+1)
	}
	checkNone(t, "P7.3", f, preface[23:], 0)
	for range 2 {
		for _, r := range good {
			for i := range len(r.bytes) - 1 {
				checkNone(t, "P7.3", f, r.bytes[i:i+1], i+1)
			}
			checkTake(t, "P7.3", f, r.bytes[len(r.bytes)-1:], []api.Item{r.item}, 0, false)
		}
	}
}

// TestLeftMost is of P7.4: it is 23 of the preface, and one byte less than a frame at the limit takes, and no more.
func TestLeftMost(t *testing.T) {
	for _, most := range []int{0, 1, 5, 300, someLimit} {
		f := chop.New(most, true)
		checkNone(t, "P7.4", f, preface[:23], 23)
		checkNone(t, "P7.4", f, preface[23:], 0)
		whole := framed(0, 1, 3, strings.Repeat("y", most))
		item := came(api.Frame{Flags: 1, Stream: 3, Data: whole[headSize:]})
		b, want := strings.Repeat(whole, 3)+whole[:len(whole)-1], []api.Item{item, item, item}
		checkTake(t, "P7.4", f, b, want, headSize+most-1, false)
		checkTake(t, "P7.4", f, whole[len(whole)-1:], want[:1], 0, false)
		checkTake(t, "P7.4", f, b, want, headSize+most-1, false)
		checkTake(t, "P7.4", f, whole[len(whole)-1:]+b, append(want, item), headSize+most-1, false)
	}
}

// heap: how many bytes are in use.
func heap() int64 {
	var m runtime.MemStats
	runtime.GC()
	runtime.ReadMemStats(&m)
	return int64(m.HeapAlloc)
}

// TestLeftMemory is of P7.4: of many bytes that were told, and of those behind a fault, no memory is kept with the few that are left.
func TestLeftMemory(t *testing.T) {
	for _, behind := range []string{"", "\x00\x00\x05", fatal[0].bytes} {
		before := heap()
		f := chop.New(someLimit, true)
		f.Take([]byte(preface))
		f.Take(append(bytes.Repeat([]byte(framed(0, 0, 1, strings.Repeat("x", someLimit))), 2000), behind...))
		if kept := heap() - before; kept > 1<<20 {
			t.Errorf("P7.4: %d bytes are kept, though %d are left", kept, f.Left())
		}
		runtime.KeepAlive(f)
	}
}
