package frame_test

import (
	"strings"
	"testing"

	"drawbridge/api"
	"drawbridge/frame"
)

// dice gives some numbers, for each first state others.
type dice uint32

// below: some number from 0 on, below n.
func (d *dice) below(n int) int {
	*d = *d*1664525 + 1013904223
	return int(*d>>8) % n
}

func oneOf[T any](d *dice, list ...T) T { return list[d.below(len(list))] }

// text: some bytes, at most so many.
func (d *dice) text(most int) string {
	b := make([]byte, d.below(most+1))
	for i := range b {
		b[i] = byte(oneOf(d, 0, 1, 2, 4, 5, 64, 127, 128, 255, d.below(256)))
	}
	return string(b)
}

func (d *dice) stream() int { return oneOf(d, 0, 0, 1, 2, 3, 257, 1<<24, max31, d.below(max31)) }

func (d *dice) number32() int64 {
	return oneOf(d, 0, 1, 2, 16383, 16384, maxPayload, maxPayload+1, max31, max31+1, max32, int64(d.below(1<<24))<<8)
}

func (d *dice) settings() []api.Setting {
	list := make([]api.Setting, d.below(5))
	for i := range list {
		list[i] = api.Setting{ID: oneOf(d, 0, 1, 2, 3, 4, 4, 4, 5, 6, 7, 256, 65535), Value: d.number32()}
	}
	return list
}

// frame: some frame that may be written.
func (d *dice) frame() api.Frame {
	f := api.Frame{Type: oneOf(d, 0, 1, 2, 3, 4, 5, 6, 7, 8, 9, 10, 255), Flags: oneOf(d, 0, 1, 4, 8, 32, 40, 45, 255, d.below(256)), Stream: d.stream()}
	for _, part := range shapeOf(f.Type, f.Flags) {
		switch part {
		case 'p':
			f.Pad = oneOf(d, 0, 1, 2, 255, d.below(256))
		case 'o':
			f.Dep, f.Weight, f.Sole = d.stream(), d.below(256), d.below(2) == 0
		case 'l':
			f.Last = d.stream()
		case 'c':
			f.Code = d.number32()
		case 'i':
			f.Inc = int64(d.stream())
		case 's':
			f.Settings = d.settings()
		case 'd':
			f.Data = oneOf(d, "", "12345678", d.text(12), d.text(300))
		}
	}
	return f
}

// TestThereAndBack is of P6.3: what is put, and has no fault, is taken as it was; of what is whole no beginning is.
func TestThereAndBack(t *testing.T) {
	d, right := dice(1), 0
	for range 10000 {
		f := d.frame()
		b, e := frame.Put(f)
		if e != api.OK || string(b) != bytesOf(f) {
			t.Fatalf("P6.1: Put(%s) = %x, %d; not %x", say(f), b, e, bytesOf(f))
		}
		g, n, x := frame.Take(b, someLimit)
		if want := faultOf(f); x != want {
			t.Fatalf("P6.2: Take(%x): %v; not %v", b, x, want)
		}
		if !x.Is {
			right++
			if !alike(f, g) || n != len(b) {
				t.Fatalf("P6.3: %s came back as %s, %d", say(f), say(g), n)
			}
		}
		for i := range b {
			checkNone(t, "P6.3", string(b[:i]), someLimit)
		}
	}
	if right < 3000 {
		t.Errorf("only %d frames without a fault", right)
	}
}

// faultOf: the fault of a frame that was put, told by its fields.
func faultOf(f api.Frame) api.Fault {
	switch f.Type {
	case 0, 1, 2, 3, 9:
		if f.Stream == 0 {
			return onConn(1)
		}
	case 4, 6, 7:
		if f.Stream != 0 {
			return onConn(1)
		}
	case 5:
		return onConn(1)
	}
	switch {
	case f.Type == 6 && len(f.Data) != 8, f.Type == 4 && f.Flags&ack != 0 && len(f.Settings) > 0:
		return onConn(6)
	case f.Type == 8 && f.Inc == 0:
		return onStream(1, f.Stream)
	}
	for _, s := range f.Settings {
		switch {
		case s.ID == 2 && s.Value > 1, s.ID == 5 && s.Value < 16384, s.ID == 5 && s.Value > maxPayload:
			return onConn(1)
		case s.ID == 4 && s.Value > max31:
			return onConn(3)
		}
	}
	return noFault
}

// checkModel takes bytes, and has the model take them.
func checkModel(t *testing.T, b string, most int) api.Fault {
	t.Helper()
	f, n, x := modelTake(b, most)
	checkTake(t, "P6.2", b, most, f, n, x)
	if t.Failed() {
		t.FailNow()
	}
	return x
}

// TestShortPayloads is of P6.2: each type with all flags and payloads of few bytes, against the model.
func TestShortPayloads(t *testing.T) {
	for kind := range 12 {
		for flags := range 256 {
			for size := range 14 {
				for _, c := range []string{"\x00", "\x01", "\x05", "\xff"} {
					for stream := range 2 {
						checkModel(t, framed(kind, flags, stream, strings.Repeat(c, size)), someLimit)
					}
				}
			}
		}
	}
}

// TestTakeLikeModel is of P6.2: rows of frames, some of them with a wrong byte, one taken behind the other, against the model.
func TestTakeLikeModel(t *testing.T) {
	told := map[api.Fault]int{}
	for first := range 10000 {
		d := dice(first * 7919)
		b := ""
		for range 4 {
			whole := []byte(bytesOf(d.frame()))
			if d.below(3) == 0 {
				whole[d.below(len(whole))] = byte(oneOf(&d, 0, 1, 8, 255, d.below(256)))
			}
			if d.below(3) == 0 {
				whole[d.below(headSize)] = byte(oneOf(&d, 0, 0, 1, 8, 255))
			}
			b += string(whole)
		}
		for {
			most := oneOf(&d, -1, 0, 5, 6, 100, 300, someLimit, someLimit, someLimit, maxPayload)
			x := checkModel(t, b, most)
			x.Stream = min(x.Stream, 1)
			told[x]++
			_, n, _ := frame.Take([]byte(b), most)
			if n == 0 {
				break
			}
			b = b[n:]
		}
	}
	for _, x := range []api.Fault{noFault, onConn(1), onConn(3), onConn(6), onStream(1, 1), onStream(6, 1)} {
		if told[x] == 0 {
			t.Errorf("P6.2: no frame had the fault %v", x)
		}
	}
}

// TestAnyBytes is of P6.2: bytes of any kind at all, against the model.
func TestAnyBytes(t *testing.T) {
	for first := range 50000 {
		d := dice(first * 104729)
		b := d.text(40)
		if len(b) > 3 && d.below(4) > 0 {
			b = "\x00\x00" + string([]byte{byte(d.below(30))}) + b[3:]
		}
		checkModel(t, b, oneOf(&d, 0, 8, 255, someLimit, 1<<24))
	}
}
