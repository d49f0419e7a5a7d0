package chop_test

import (
	"bytes"
	"slices"
	"strings"
	"testing"

	"drawbridge/api"
	"drawbridge/chop"
)

// TestTake is of P7.2: several items in one piece, with and without the preface ahead of them.
func TestTake(t *testing.T) {
	checkTake(t, "P7.2", chop.New(someLimit, true), preface+bytesOf(good), itemsOf(good), 0, false)
	checkTake(t, "P7.2", chop.New(someLimit, false), bytesOf(good), itemsOf(good), 0, false)
	for _, r := range good {
		checkTake(t, "P7.2", chop.New(someLimit, true), preface+r.bytes, []api.Item{r.item}, 0, false)
		checkTake(t, "P7.2", chop.New(someLimit, false), r.bytes, []api.Item{r.item}, 0, false)
		checkTake(t, "P7.2", chop.New(someLimit, false), r.bytes+"\x00\x00\x00\x04\x00", []api.Item{r.item}, 5, false)
	}
}

// TestTakeOrder is of P7.2: any two items, in their order, in one piece and one behind the other.
func TestTakeOrder(t *testing.T) {
	for _, a := range good {
		for _, b := range slices.Concat(good, fatal) {
			over := b.item.Fault.Is && b.item.Fault.Stream == 0
			checkTake(t, "P7.2", chop.New(someLimit, false), a.bytes+b.bytes, []api.Item{a.item, b.item}, 0, over)
			f := chop.New(someLimit, true)
			checkTake(t, "P7.2", f, preface+a.bytes, []api.Item{a.item}, 0, false)
			checkTake(t, "P7.2", f, b.bytes, []api.Item{b.item}, 0, over)
		}
	}
}

// TestTakePreface is of P7.2: 23 of its bytes, and all of them, with and without something behind them.
func TestTakePreface(t *testing.T) {
	f := chop.New(someLimit, true)
	checkNone(t, "P7.2", f, preface[:23], 23)
	checkNone(t, "P7.2", f, "", 23)
	checkNone(t, "P7.2", f, "\n", 0)
	checkNone(t, "P7.2", f, "", 0)
	checkTake(t, "P7.2", f, good[0].bytes, []api.Item{good[0].item}, 0, false)
	f = chop.New(someLimit, true)
	checkNone(t, "P7.2", f, preface[:23], 23)
	checkTake(t, "P7.2", f, "\n"+good[0].bytes+"\x00", []api.Item{good[0].item}, 1, false)
	f = chop.New(someLimit, true)
	checkNone(t, "P7.2", f, preface[:1], 1)
	checkNone(t, "P7.2", f, preface[1:]+"\x00\x00", 2)
}

// TestTakeWrongPreface is of P7.2: each of its bytes another one, told as soon as it comes.
func TestTakeWrongPreface(t *testing.T) {
	fault := []api.Item{wrong(1, 0)}
	for i := range len(preface) {
		for c := range 256 {
			if byte(c) == preface[i] {
				continue
			}
			b := preface[:i] + string([]byte{byte(c)}) + preface[i+1:] + good[0].bytes
			for n := range i + 2 { // all ahead of the byte, or with it, and the rest
				f := chop.New(someLimit, true)
				if n <= i {
					checkNone(t, "P7.2", f, b[:n], n)
					checkTake(t, "P7.2", f, b[n:], fault, 0, true)
				} else {
					checkTake(t, "P7.2", f, b[:n], fault, 0, true)
				}
				checkTake(t, "P7.2", f, b, nil, 0, true)
			}
		}
	}
}

// TestTakeDeadPreface is of P7.2: whatever comes behind a wrong one isn't told, were it what had been awaited.
func TestTakeDeadPreface(t *testing.T) {
	for i := range len(preface) {
		f := chop.New(someLimit, true)
		checkNone(t, "P7.2", f, preface[:i], i)
		checkTake(t, "P7.2", f, "\x00", []api.Item{wrong(1, 0)}, 0, true)
		checkTake(t, "P7.2", f, preface[i:], nil, 0, true)
		checkDead(t, "P7.2", f)
	}
}

// TestTakeStreamFault is of P7.2: it is told in its place, and what stands behind it is, in the same piece and in the next.
func TestTakeStreamFault(t *testing.T) {
	for _, i := range []int{4, 7, 8} {
		f := chop.New(someLimit, false)
		r := good[i]
		checkTake(t, "P7.2", f, good[2].bytes+r.bytes+good[5].bytes, []api.Item{good[2].item, r.item, good[5].item}, 0, false)
		checkTake(t, "P7.2", f, r.bytes+r.bytes+good[9].bytes[:11], []api.Item{r.item, r.item}, 11, false)
		checkTake(t, "P7.2", f, good[9].bytes[11:]+r.bytes, []api.Item{good[9].item, r.item}, 0, false)
		checkTake(t, "P7.2", f, good[0].bytes, []api.Item{good[0].item}, 0, false)
	}
}

// TestTakeFatal is of P7.2: a fault of the connection ahead of all, behind good frames, behind a fault of a stream; with it all is over.
func TestTakeFatal(t *testing.T) {
	for _, r := range fatal {
		for _, ahead := range [][]told{nil, good[:1], good[:3], good[4:5], good[7:9], good} {
			for _, behind := range []string{"", "\x00", good[1].bytes, bytesOf(good), r.bytes} {
				want := append(itemsOf(ahead), r.item)
				f := chop.New(someLimit, false)
				checkTake(t, "P7.2", f, bytesOf(ahead)+r.bytes+behind, want, 0, true)
				checkDead(t, "P7.2", f)
				f = chop.New(someLimit, true)
				checkTake(t, "P7.2", f, preface+bytesOf(ahead), itemsOf(ahead), 0, false)
				checkNone(t, "P7.2", f, r.bytes[:len(r.bytes)-1], len(r.bytes)-1)
				checkTake(t, "P7.2", f, r.bytes[len(r.bytes)-1:]+behind, []api.Item{r.item}, 0, true)
				checkDead(t, "P7.2", f)
			}
		}
	}
}

// TestTakeNothing is of P7.2: an empty piece, at any time.
func TestTakeNothing(t *testing.T) {
	f := chop.New(someLimit, true)
	b, left := preface+good[0].bytes, 0
	for i := range len(b) {
		for range 2 {
			if l := f.Take(nil); len(l) != 0 {
				t.Errorf("P7.2: Take(nil) = %s", say(l))
			}
			checkNone(t, "P7.2", f, "", left)
		}
		f.Take([]byte(b[i : i+1]))
		left = f.Left()
	}
	checkNone(t, "P7.2", f, "", 0)
}

// TestTakeKeepsNothing is of P7.2: a piece, its spare room too, stays as it is, and may be written over behind the call.
func TestTakeKeepsNothing(t *testing.T) {
	all := preface + bytesOf(good)
	for _, size := range []int{1, 2, 7, 10, 23, 24, 30, len(all)} {
		f := chop.New(someLimit, true)
		var items []api.Item
		for rest := all; rest != ""; rest = rest[min(size, len(rest)):] {
			piece := rest[:min(size, len(rest))]
			room := []byte(piece + strings.Repeat("spare room", 20))
			items = append(items, f.Take(room[:len(piece)])...)
			if string(room) != piece+strings.Repeat("spare room", 20) {
				t.Fatalf("P7.2: a piece became %q", room)
			}
			copy(room, bytes.Repeat([]byte{0xee}, len(room)))
		}
		if !alike(items, itemsOf(good)) {
			t.Errorf("P7.2: in pieces of %d that were written over: %s", size, say(items))
		}
	}
}

// writeOver writes over all that lists of items share memory with, their spare room too.
func writeOver(list []api.Item) {
	list = list[:cap(list)]
	for i := range list {
		settings := list[i].Frame.Settings[:cap(list[i].Frame.Settings)]
		for j := range settings {
			settings[j] = api.Setting{ID: 77, Value: 77}
		}
		list[i] = wrong(77, 77)
	}
}

// TestTakeAnswersApart is of P7.2: each answer of Take, and each list in it, has a memory of its own.
func TestTakeAnswersApart(t *testing.T) {
	f := chop.New(someLimit, false)
	piece := strings.Repeat(good[0].bytes, 3)
	want := []api.Item{good[0].item, good[0].item, good[0].item}
	first := f.Take([]byte(piece + good[0].bytes[:15]))
	second := f.Take([]byte(good[0].bytes[15:] + piece))
	if !alike(first, want) || !alike(second, append(want, good[0].item)) {
		t.Fatalf("P7.2: %s; %s", say(first), say(second))
	}
	writeOver(second)
	if !alike(first, want) {
		t.Errorf("P7.2: an earlier answer became %s", say(first))
	}
	writeOver(first[:1:1])
	if !alike(first[1:], want[1:]) {
		t.Errorf("P7.2: another item became %s", say(first[1:]))
	}
	writeOver(first)
	checkTake(t, "P7.2", f, piece, want, 0, false)
}
