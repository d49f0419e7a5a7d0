package frame_test

import (
	"bytes"
	"math"
	"strings"
	"testing"

	"drawbridge/api"
	"drawbridge/frame"
)

// TestTake is of P6.2: each type of frame, with and without what its flags ask for.
func TestTake(t *testing.T) {
	for _, r := range ordinary {
		checkWhole(t, "P6.2", r.bytes, r.f)
	}
}

// TestTakeExamples is of P6.2.
func TestTakeExamples(t *testing.T) {
	checkTake(t, "P6.2", "\x00\x00\x00\x04\x01\x00\x00\x00\x00", 16384, api.Frame{Type: api.Settings, Flags: api.FlagAck}, 9, noFault)
	checkTake(t, "P6.2", "\x00\x40\x01\x00\x00\x00\x00\x00\x01", 16384, api.Frame{}, 0, onConn(api.FrameSize))
	checkTake(t, "P6.2", "\x00\x00\x04\x08\x00\x00\x00\x00\x01\x00\x00\x00\x00", 16384, api.Frame{}, 13, onStream(api.Protocol, 1))
}

// TestTakeShort is of P6.2 and P6.3: of a whole frame no beginning is a frame, nor a fault.
func TestTakeShort(t *testing.T) {
	whole := framed(77, 0, 1, "")
	checkNone(t, "P6.2", "", someLimit)
	checkNone(t, "P6.2", whole[:8], someLimit)
	checkNone(t, "P6.2", "\xff\xff\xff\xff\xff\xff\xff\xff", 0)
	checkWhole(t, "P6.2", whole, api.Frame{Type: 77, Stream: 1})
	for _, r := range ordinary {
		for n := range len(r.bytes) {
			checkNone(t, "P6.3", r.bytes[:n], someLimit)
		}
	}
	// What is wrong isn't told ahead of the last byte.
	for _, b := range []string{
		framed(0, 0, 0, "x"), framed(4, 0, 1, setting(1, 1)), framed(5, 0, 1, "promised"), framed(2, 0, 1, "four"),
		framed(3, 0, 1, "three"), framed(6, 0, 0, "seven.."), framed(4, 1, 0, "x"), framed(0, 8, 1, "\x02x"),
		framed(8, 0, 1, four(0)), framed(4, 0, 0, setting(2, 2)+setting(2, 2)),
	} {
		for n := range len(b) {
			checkNone(t, "P6.2", b[:n], someLimit)
		}
		if _, _, x := frame.Take([]byte(b), someLimit); !x.Is {
			t.Errorf("P6.2: Take(%x): no fault", b)
		}
	}
}

// TestTakeLimit is of P6.2: a length just at the limit, and one above it, as soon as nine bytes are there.
func TestTakeLimit(t *testing.T) {
	for _, most := range []int{0, 1, 5, 255, 256, 16384, 65535, 65536, maxPayload - 1} {
		f := api.Frame{Type: 0, Stream: 1, Data: strings.Repeat("x", most)}
		at := bytesOf(f)
		checkTake(t, "P6.2", at, most, f, len(at), noFault)
		checkNone(t, "P6.2", at[:len(at)-1], most)
		checkTake(t, "P6.2", at, most-1, api.Frame{}, 0, onConn(6))
		f.Data += "x"
		above := bytesOf(f)
		checkTake(t, "P6.2", above, most, api.Frame{}, 0, onConn(6))
		checkTake(t, "P6.2", above[:headSize], most, api.Frame{}, 0, onConn(6))
		checkNone(t, "P6.2", above[:headSize-1], most)
		checkTake(t, "P6.2", above, most+1, f, len(above), noFault)
	}
}

// TestTakeLimits is of P6.2: limits of 0 and below, and limits that no length is above.
func TestTakeLimits(t *testing.T) {
	empty := framed(4, 0, 0, "")
	checkTake(t, "P6.2", empty, 0, api.Frame{Type: 4}, 9, noFault)
	for _, most := range []int{-1, -2, -maxPayload, math.MinInt} {
		checkTake(t, "P6.2", empty, most, api.Frame{}, 0, onConn(6))
		checkNone(t, "P6.2", empty[:8], most)
	}
	f := api.Frame{Type: 99, Data: strings.Repeat("x", maxPayload)}
	long := bytesOf(f)
	for _, most := range []int{maxPayload, maxPayload + 1, 1 << 32, math.MaxInt} {
		checkTake(t, "P6.2", empty, most, api.Frame{Type: 4}, 9, noFault)
		checkTake(t, "P6.2", long, most, f, len(long), noFault)
		checkNone(t, "P6.2", long[:len(long)-1], most)
	}
}

// TestTakeLimitFirst is of P6.2: a length above the limit is told ahead of all else, and of the connection.
func TestTakeLimitFirst(t *testing.T) {
	for _, b := range []string{framed(0, 8, 0, "\xffx"), framed(5, 0, 1, "promised"), framed(2, 0, 1, "xy"), framed(8, 0, 1, four(0)), framed(4, 0, 0, setting(4, max32))} {
		checkTake(t, "P6.2", b, 1, api.Frame{}, 0, onConn(6))
	}
}

// TestTakeStreams is of P6.2: each type without a stream, and with one.
func TestTakeStreams(t *testing.T) {
	payloads := map[int]string{2: order(1, 1, false), 3: four(1), 4: setting(1, 1), 6: "12345678", 7: four(1) + four(1), 8: four(1)}
	for kind := range 256 {
		for _, stream := range []int{0, 1, 2, 1 << 8, 1 << 24, max31} {
			b := framed(kind, 0, stream, payloads[kind])
			wrong := kind == 5
			switch kind {
			case 0, 1, 2, 3, 9:
				wrong = stream == 0
			case 4, 6, 7:
				wrong = stream != 0
			}
			if wrong {
				checkConnFault(t, "P6.2", b, 1)
			} else if f, n, x := frame.Take([]byte(b), someLimit); f.Type != kind || f.Stream != stream || n != len(b) || x != noFault {
				t.Errorf("P6.2: Take(%x) = %s, %d, %v", b, say(f), n, x)
			}
		}
	}
	for _, payload := range []string{"", "x", four(2), four(2) + "block"} {
		for _, flags := range []int{0, 4, 8, 12} {
			checkConnFault(t, "P6.2", framed(5, flags, 0, payload), 1)
			checkConnFault(t, "P6.2", framed(5, flags, 1, payload), 1)
		}
	}
}

// TestTakeLengths is of P6.2: payloads of each type with more and fewer bytes than they may have.
func TestTakeLengths(t *testing.T) {
	for _, r := range []struct {
		kind, flags, stream int
		right               func(size int) bool
	}{
		{0, 0, 1, func(int) bool { return true }}, {0, 8, 1, func(n int) bool { return n >= 1 }}, {0, 32, 1, func(int) bool { return true }},
		{0, 40, 1, func(n int) bool { return n >= 1 }}, {0, 0xf7, 1, func(int) bool { return true }},
		{1, 0, 1, func(int) bool { return true }}, {1, 8, 1, func(n int) bool { return n >= 1 }}, {1, 32, 1, func(n int) bool { return n >= 5 }},
		{1, 40, 1, func(n int) bool { return n >= 6 }}, {1, 0xff, 1, func(n int) bool { return n >= 6 }},
		{3, 0, 1, func(n int) bool { return n == 4 }}, {3, 0xff, 1, func(n int) bool { return n == 4 }},
		{4, 0, 0, func(n int) bool { return n%6 == 0 }}, {4, 0xfe, 0, func(n int) bool { return n%6 == 0 }},
		{4, 1, 0, func(n int) bool { return n == 0 }}, {4, 0xff, 0, func(n int) bool { return n == 0 }},
		{6, 0, 0, func(n int) bool { return n == 8 }}, {6, 1, 0, func(n int) bool { return n == 8 }},
		{7, 0, 0, func(n int) bool { return n >= 8 }}, {7, 0xff, 0, func(n int) bool { return n >= 8 }},
		{8, 0, 1, func(n int) bool { return n == 4 }}, {8, 0, 0, func(n int) bool { return n == 4 }},
		{9, 0, 1, func(int) bool { return true }}, {9, 0xff, 1, func(int) bool { return true }},
		{10, 0, 0, func(int) bool { return true }}, {10, 0xff, 1, func(int) bool { return true }}, {255, 0xff, 0, func(int) bool { return true }},
	} {
		for size := range 40 {
			// Bytes that are no fault: no Pad, an Inc, settings that nobody knows.
			payload := strings.Repeat("\x00\x07\x00\x00\x00\x00", 7)[:size]
			b := framed(r.kind, r.flags, r.stream, payload)
			if !r.right(size) {
				checkConnFault(t, "P6.2", b, 6)
			} else if f, n, x := frame.Take([]byte(b), someLimit); f.Type != r.kind || n != len(b) || x != noFault {
				t.Errorf("P6.2: Take(%x) = %s, %d, %v", b, say(f), n, x)
			}
		}
	}
}

// TestTakePriorityLength is of P6.2: it is the stream's fault, and its bytes go by.
func TestTakePriorityLength(t *testing.T) {
	for size := range 40 {
		for _, stream := range []int{1, 2, 7, max31} {
			b := framed(2, size, stream, strings.Repeat("\x01", size))
			if size == 5 {
				checkWhole(t, "P6.2", b, api.Frame{Type: 2, Flags: size, Stream: stream, Dep: 0x1010101, Weight: 1})
			} else {
				checkStreamFault(t, "P6.2", b, 6, stream)
			}
		}
		checkConnFault(t, "P6.2", framed(2, 0, 0, strings.Repeat("\x01", size)), 1)
	}
}

// TestTakeAck is of P6.2: a flag that asks for no payload, of Settings alone.
func TestTakeAck(t *testing.T) {
	checkWhole(t, "P6.2", framed(4, 1, 0, ""), api.Frame{Type: 4, Flags: 1})
	checkConnFault(t, "P6.2", framed(4, 1, 0, setting(1, 1)), 6)
	checkConnFault(t, "P6.2", framed(4, 1, 0, setting(2, 2)), 6)
	checkConnFault(t, "P6.2", framed(4, 3, 0, setting(4, max32)), 6)
	checkWhole(t, "P6.2", framed(4, 0xfe, 0, setting(1, 1)), api.Frame{Type: 4, Flags: 0xfe, Settings: []api.Setting{{ID: 1, Value: 1}}})
}

// TestTakePad is of P6.2: Pad just as long as what is left, and longer.
func TestTakePad(t *testing.T) {
	for _, r := range []struct {
		kind, flags int
		order       string
		want        api.Frame
	}{
		{0, 8, "", api.Frame{}}, {0, 0xff, "", api.Frame{}}, {1, 8, "", api.Frame{}}, {1, 0xdf, "", api.Frame{}},
		{1, 40, order(3, 9, true), api.Frame{Dep: 3, Weight: 9, Sole: true}}, {1, 0xff, order(max31, 255, false), api.Frame{Dep: max31, Weight: 255}},
	} {
		for _, left := range []int{0, 1, 2, 5, 6, 254, 255, 256, 300} {
			text := strings.Repeat("\x77\x05", 150)[:left] // what fills isn't looked at
			for _, pad := range []int{0, 1, left - 1, left, left + 1, left + 5, left + 6, 254, 255} {
				if pad < 0 || pad > 255 {
					continue
				}
				b := framed(r.kind, r.flags, 7, string([]byte{byte(pad)})+r.order+text)
				if pad > left {
					checkConnFault(t, "P6.2", b, 1)
					continue
				}
				f := r.want
				f.Type, f.Flags, f.Stream, f.Pad, f.Data = r.kind, r.flags, 7, pad, text[:left-pad]
				checkWhole(t, "P6.2", b, f)
			}
		}
	}
}

// TestTakeNoPad is of P6.2: of other types, and without the flag, the first byte is as all others.
func TestTakeNoPad(t *testing.T) {
	for _, r := range [][2]int{{0, 0xf7}, {1, 0xd7}, {9, 0xff}, {10, 0xff}, {200, 8}} {
		checkWhole(t, "P6.2", framed(r[0], r[1], 1, "\xffab"), api.Frame{Type: r[0], Flags: r[1], Stream: 1, Data: "\xffab"})
	}
	checkWhole(t, "P6.2", framed(6, 0xff, 0, "\xff2345678"), api.Frame{Type: 6, Flags: 0xff, Data: "\xff2345678"})
}

// TestTakeInc is of P6.2: an Inc of 0, the highest bit not being looked at, with and without a stream.
func TestTakeInc(t *testing.T) {
	for _, payload := range []string{"\x00\x00\x00\x00", "\x80\x00\x00\x00"} {
		checkConnFault(t, "P6.2", framed(8, 0, 0, payload), 1)
		for _, stream := range []int{1, 2, 1 << 24, max31} {
			checkStreamFault(t, "P6.2", framed(8, 0, stream, payload), 1, stream)
		}
	}
	for _, inc := range []int64{1, 255, 256, 1 << 16, 1 << 24, 1 << 30, max31} {
		for _, stream := range []int{0, 1, max31} {
			want := api.Frame{Type: 8, Stream: stream, Inc: inc}
			checkWhole(t, "P6.2", framed(8, 0, stream, four(inc)), want)
			checkWhole(t, "P6.2", framed(8, 0, stream, four(inc|1<<31)), want)
		}
	}
}

// TestTakeSettings is of P6.2: each setting's value at its bounds, and outside of them.
func TestTakeSettings(t *testing.T) {
	for _, r := range []struct {
		id    int
		right []int64
		wrong []int64
		code  int64
	}{
		{0, []int64{0, 1, max31, max32}, nil, 0},
		{1, []int64{0, 1, 4096, 65537, 1 << 31, max32}, nil, 0},
		{2, []int64{0, 1}, []int64{2, 3, 256, 65536, 1 << 24, 1 << 31, max32}, 1},
		{3, []int64{0, 1, 1 << 31, max32}, nil, 0},
		{4, []int64{0, 1, 65535, max31 - 1, max31}, []int64{1 << 31, 1<<31 + 1, max32}, 3},
		{5, []int64{16384, 16385, maxPayload - 1, maxPayload}, []int64{0, 1, 16383, maxPayload + 1, 1 << 31, max32}, 1},
		{6, []int64{0, 1, 1 << 31, max32}, nil, 0},
		{7, []int64{0, 2, max32}, nil, 0},
		{0x0102, []int64{0, 2, max32}, nil, 0}, {0x0200, []int64{2}, nil, 0}, {0x0400, []int64{max32}, nil, 0}, {0x0500, []int64{1}, nil, 0},
		{65535, []int64{0, 2, 1 << 31, max32}, nil, 0},
	} {
		for _, value := range r.right {
			b := framed(4, 0, 0, setting(r.id, value)+setting(9, 9))
			checkWhole(t, "P6.2", b, api.Frame{Type: 4, Settings: []api.Setting{{ID: r.id, Value: value}, {ID: 9, Value: 9}}})
		}
		for _, value := range r.wrong {
			checkConnFault(t, "P6.2", framed(4, 0, 0, setting(r.id, value)), r.code)
			checkConnFault(t, "P6.2", framed(4, 0, 0, setting(9, 9)+setting(r.id, value)), r.code)
			checkConnFault(t, "P6.2", framed(4, 0, 0, setting(r.id, value)+setting(9, 9)), r.code)
		}
	}
}

// TestTakeFirstSetting is of P6.2: of several wrong settings the first one is told, whatever comes behind it.
func TestTakeFirstSetting(t *testing.T) {
	push, window, size := setting(2, 2), setting(4, 1<<31), setting(5, 1)
	checkConnFault(t, "P6.2", framed(4, 0, 0, push+window), 1)
	checkConnFault(t, "P6.2", framed(4, 0, 0, window+push), 3)
	checkConnFault(t, "P6.2", framed(4, 0, 0, window+size), 3)
	checkConnFault(t, "P6.2", framed(4, 0, 0, size+window), 1)
	checkConnFault(t, "P6.2", framed(4, 0, 0, setting(2, 1)+setting(4, 1)+window+size+push), 3)
	// A later value of the same setting doesn't mend it.
	checkConnFault(t, "P6.2", framed(4, 0, 0, window+setting(4, 1)), 3)
}

// TestTakeFirstFault is of P6.2: of a frame with several faults the first one is told.
func TestTakeFirstFault(t *testing.T) {
	for _, r := range []struct {
		b    string
		want api.Fault
	}{
		{framed(0, 8, 0, ""), onConn(1)}, {framed(1, 40, 0, "\xff"), onConn(1)}, {framed(2, 0, 0, "x"), onConn(1)}, {framed(3, 0, 0, "x"), onConn(1)},
		{framed(4, 0, 1, "x"), onConn(1)}, {framed(4, 1, 1, setting(4, max32)), onConn(1)}, {framed(6, 0, 1, "x"), onConn(1)}, {framed(7, 0, 1, "x"), onConn(1)},
		{framed(8, 0, 0, "\x00\x00\x00"), onConn(6)}, {framed(8, 0, 1, "\x00\x00\x00\x00\x00"), onConn(6)},
		{framed(1, 40, 1, "\xff\x00\x00\x00\x00"), onConn(6)}, {framed(4, 0, 0, setting(4, max32)+"x"), onConn(6)}, {framed(4, 1, 0, setting(2, 2)), onConn(6)},
	} {
		checkTake(t, "P6.2", r.b, someLimit, api.Frame{}, 0, r.want)
	}
}

// TestTakeHighestBits is of P6.2: those of Stream, Last and Inc aren't looked at; that of Dep is Sole.
func TestTakeHighestBits(t *testing.T) {
	for _, stream := range []int{1, 3, max31} {
		b := framed(0, 0, stream|1<<31, "x")
		checkWhole(t, "P6.2", b, api.Frame{Type: 0, Stream: stream, Data: "x"})
		checkStreamFault(t, "P6.2", framed(2, 0, stream|1<<31, "x"), 6, stream)
	}
	checkConnFault(t, "P6.2", framed(0, 0, 1<<31, "x"), 1)
	checkWhole(t, "P6.2", framed(4, 0, 1<<31, ""), api.Frame{Type: 4})
	for _, last := range []int{0, 1, max31} {
		b := framed(7, 0, 0, four(int64(last|1<<31))+four(max32))
		checkWhole(t, "P6.2", b, api.Frame{Type: 7, Last: last, Code: max32})
	}
	for _, dep := range []int{0, 1, max31} {
		for _, sole := range []bool{true, false} {
			checkWhole(t, "P6.2", framed(2, 0, 1, order(dep, 0, sole)), api.Frame{Type: 2, Stream: 1, Dep: dep, Sole: sole})
			checkWhole(t, "P6.2", framed(1, 32, 1, order(dep, 255, sole)), api.Frame{Type: 1, Flags: 32, Stream: 1, Dep: dep, Weight: 255, Sole: sole})
		}
	}
	for _, code := range []int64{0, 1 << 31, max32} {
		checkWhole(t, "P6.2", framed(3, 0, 1, four(code)), api.Frame{Type: 3, Stream: 1, Code: code})
	}
}

// TestTakeOtherTypes is of P6.2: types above 9 are frames with Data, whatever their flags and streams are.
func TestTakeOtherTypes(t *testing.T) {
	for kind := 10; kind < 256; kind++ {
		for _, flags := range []int{0, 1, 4, 8, 32, 40, 255} {
			for _, stream := range []int{0, 1, 2, max31} {
				f := api.Frame{Type: kind, Flags: flags, Stream: stream, Data: "\xff\x00"}
				checkWhole(t, "P6.2", bytesOf(f), f)
			}
		}
	}
}

// TestTakeKeepsNothing is of P6.2: what is handed in stays as it is, its spare room too, and what is answered is new.
func TestTakeKeepsNothing(t *testing.T) {
	for _, r := range ordinary {
		room := []byte(r.bytes + "spare room")
		b := room[:len(r.bytes)]
		f, _, _ := frame.Take(b, someLimit)
		g, _, _ := frame.Take(b, someLimit)
		if string(room) != r.bytes+"spare room" {
			t.Errorf("P6.2: bytes became %x", room)
		}
		copy(room, bytes.Repeat([]byte{0xee}, len(room)))
		for i := range g.Settings[:cap(g.Settings)] {
			g.Settings[:cap(g.Settings)][i].Value = 77
		}
		if !alike(f, r.f) {
			t.Errorf("P6.2: what was taken became %s, not %s", say(f), say(r.f))
		}
	}
}
