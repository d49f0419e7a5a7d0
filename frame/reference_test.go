package frame_test

import (
	"encoding/binary"
	"fmt"
	"reflect"
	"slices"
	"strings"
	"testing"

	"drawbridge/api"
	"drawbridge/frame"
)

const (
	headSize   = 9
	maxPayload = 1<<24 - 1
	max31      = 1<<31 - 1
	max32      = 1<<32 - 1
	someLimit  = 16384

	padded   = 8
	priority = 32
	ack      = 1
)

// shapes: what stands in a payload of each type, a letter a part: p the byte
// Pad (with its flag alone), o Dep, Sole and Weight (of Headers with their flag
// alone), l Last, c Code, i Inc, s Settings, d Data. All others have "d".
var shapes = map[int]string{0: "pd", 1: "pod", 2: "o", 3: "c", 4: "s", 5: "d", 6: "d", 7: "lcd", 8: "i", 9: "d"}

// shapeOf: the parts of a payload of a type with such flags.
func shapeOf(kind, flags int) string {
	shape, ok := shapes[kind]
	if !ok {
		return "d"
	}
	if flags&padded == 0 {
		shape = strings.Replace(shape, "p", "", 1)
	}
	if kind == 1 && flags&priority == 0 {
		shape = strings.Replace(shape, "o", "", 1)
	}
	return shape
}

// four: a number's four bytes.
func four(n int64) string { return string(binary.BigEndian.AppendUint32(nil, uint32(n))) }

// framed: a payload as the bytes of a frame.
func framed(kind, flags, stream int, payload string) string {
	return four(int64(len(payload)))[1:] + string([]byte{byte(kind), byte(flags)}) + four(int64(stream)) + payload
}

// setting: a setting's bytes.
func setting(id int, value int64) string { return four(int64(id))[2:] + four(value) }

// order: the bytes of Dep, Sole and Weight.
func order(dep, weight int, sole bool) string {
	bit := int64(0)
	if sole {
		bit = 1 << 31
	}
	return four(int64(dep)+bit) + string([]byte{byte(weight)})
}

// payloadOf: a frame's payload, part by part.
func payloadOf(f api.Frame) string {
	var b strings.Builder
	for _, part := range shapeOf(f.Type, f.Flags) {
		switch part {
		case 'p':
			b.WriteByte(byte(f.Pad))
		case 'o':
			b.WriteString(order(f.Dep, f.Weight, f.Sole))
		case 'l':
			b.WriteString(four(int64(f.Last)))
		case 'c':
			b.WriteString(four(f.Code))
		case 'i':
			b.WriteString(four(f.Inc))
		case 's':
			for _, s := range f.Settings {
				b.WriteString(setting(s.ID, s.Value))
			}
		case 'd':
			b.WriteString(f.Data)
		}
	}
	b.WriteString(strings.Repeat("\x00", f.Pad))
	return b.String()
}

// bytesOf: the bytes of a frame that may be written.
func bytesOf(f api.Frame) string { return framed(f.Type, f.Flags, f.Stream, payloadOf(f)) }

// onConn, onStream: faults.
func onConn(code int64) api.Fault { return api.Fault{Is: true, Code: code} }

func onStream(code int64, stream int) api.Fault {
	return api.Fault{Is: true, Code: code, Stream: stream}
}

var noFault = api.Fault{}

// read is a payload that the model reads.
type read struct{ rest string }

func (r *read) number(size int) int64 {
	n := int64(0)
	for range size {
		n = n*256 + int64(r.rest[0])
		r.rest = r.rest[1:]
	}
	return n
}

// modelTake: what the chapter says of Take.
func modelTake(b string, most int) (api.Frame, int, api.Fault) {
	if len(b) < headSize {
		return api.Frame{}, 0, noFault
	}
	r := read{b}
	size := int(r.number(3))
	f := api.Frame{}
	f.Type, f.Flags, f.Stream = int(r.number(1)), int(r.number(1)), int(r.number(4)%(1<<31))
	switch {
	case size > most:
		return api.Frame{}, 0, onConn(6)
	case size > len(r.rest):
		return api.Frame{}, 0, noFault
	}
	r.rest = r.rest[:size]
	x := r.fault(&f)
	if x == noFault {
		return f, headSize + size, x
	}
	if x.Stream == 0 {
		return api.Frame{}, 0, x
	}
	return api.Frame{}, headSize + size, x
}

// fault reads a payload, and tells the first that is wrong.
func (r *read) fault(f *api.Frame) api.Fault {
	if slices.Contains([]int{0, 1, 2, 3, 9}, f.Type) && f.Stream == 0 ||
		slices.Contains([]int{4, 6, 7}, f.Type) && f.Stream != 0 || f.Type == 5 {
		return onConn(1)
	}
	if size := len(r.rest); wrongLength(f.Type, f.Flags, size) {
		if f.Type == 2 {
			return onStream(6, f.Stream)
		}
		return onConn(6)
	}
	for _, part := range shapeOf(f.Type, f.Flags) {
		switch part {
		case 'p':
			f.Pad = int(r.number(1))
		case 'o':
			dep := r.number(4)
			f.Dep, f.Sole, f.Weight = int(dep%(1<<31)), dep >= 1<<31, int(r.number(1))
		case 'l':
			f.Last = int(r.number(4) % (1 << 31))
		case 'c':
			f.Code = r.number(4)
		case 'i':
			f.Inc = r.number(4) % (1 << 31)
		}
	}
	if f.Pad > len(r.rest) {
		return onConn(1)
	}
	if f.Type == 8 && f.Inc == 0 {
		return onStream(1, f.Stream)
	}
	if f.Type != 4 {
		f.Data = r.rest[:len(r.rest)-f.Pad]
		return noFault
	}
	return r.settings(f)
}

func (r *read) settings(f *api.Frame) api.Fault {
	for r.rest != "" {
		s := api.Setting{ID: int(r.number(2))}
		s.Value = r.number(4)
		switch {
		case s.ID == 2 && s.Value > 1:
			return onConn(1)
		case s.ID == 4 && s.Value >= 1<<31:
			return onConn(3)
		case s.ID == 5 && (s.Value < 1<<14 || s.Value >= 1<<24):
			return onConn(1)
		}
		f.Settings = append(f.Settings, s)
	}
	return noFault
}

// wrongLength: whether a payload may not have so many bytes.
func wrongLength(kind, flags, size int) bool {
	switch kind {
	case 0, 1:
		least := 0
		if flags&padded != 0 {
			least++
		}
		if kind == 1 && flags&priority != 0 {
			least += 5
		}
		return size < least
	case 2:
		return size != 5
	case 3, 8:
		return size != 4
	case 4:
		return size%6 != 0 || flags&ack != 0 && size > 0
	case 6:
		return size != 8
	case 7:
		return size < 8
	}
	return false
}

// Checks.

// say: a frame as a failing test tells it; of long texts the beginning and the length.
func say(f api.Frame) string {
	settings := ""
	for i, s := range f.Settings {
		if i == 8 {
			settings += " .."
			break
		}
		settings += fmt.Sprintf(" %d=%d", s.ID, s.Value)
	}
	return fmt.Sprintf("{type %d, flags %d, stream %d, data %.40q (%d), pad %d, settings (%d)%s, code %d, last %d, inc %d, dep %d, weight %d, sole %v}",
		f.Type, f.Flags, f.Stream, f.Data, len(f.Data), f.Pad, len(f.Settings), settings, f.Code, f.Last, f.Inc, f.Dep, f.Weight, f.Sole)
}

func alike(a, b api.Frame) bool {
	if len(a.Settings) == 0 && len(b.Settings) == 0 {
		a.Settings, b.Settings = nil, nil
	}
	return reflect.DeepEqual(a, b)
}

// checkPut holds a frame's bytes against those that are asked for.
func checkPut(t *testing.T, promise string, f api.Frame, want string) {
	t.Helper()
	if b, e := frame.Put(f); string(b) != want || e != api.OK {
		t.Errorf("%s: Put(%s) = %.60x (%d), %d; not %.60x (%d)", promise, say(f), b, len(b), e, want, len(want))
	}
}

// checkPutWrong puts a frame that has no bytes.
func checkPutWrong(t *testing.T, promise string, f api.Frame, want api.Errno) {
	t.Helper()
	if b, e := frame.Put(f); len(b) != 0 || e != want {
		t.Errorf("%s: Put(%s) = %.60x (%d), %d; not %d", promise, say(f), b, len(b), e, want)
	}
}

// checkTake holds what is taken against what is asked for.
func checkTake(t *testing.T, promise, b string, most int, want api.Frame, n int, fault api.Fault) {
	t.Helper()
	f, size, x := frame.Take([]byte(b), most)
	if !alike(f, want) || size != n || x != fault {
		t.Errorf("%s: Take(%.60x (%d), %d) = %s, %d, %v; not %s, %d, %v", promise, b, len(b), most, say(f), size, x, say(want), n, fault)
	}
}

// checkNone takes bytes at whose beginning no whole frame stands.
func checkNone(t *testing.T, promise, b string, most int) {
	t.Helper()
	checkTake(t, promise, b, most, api.Frame{}, 0, noFault)
}

// checkConnFault takes a frame that is the connection's end; with other bytes behind it, too.
func checkConnFault(t *testing.T, promise, b string, code int64) {
	t.Helper()
	checkTake(t, promise, b, someLimit, api.Frame{}, 0, onConn(code))
	checkTake(t, promise, b+"more", someLimit, api.Frame{}, 0, onConn(code))
}

// checkStreamFault takes a frame that is its stream's end; with other bytes behind it, too.
func checkStreamFault(t *testing.T, promise, b string, code int64, stream int) {
	t.Helper()
	checkTake(t, promise, b, someLimit, api.Frame{}, len(b), onStream(code, stream))
	checkTake(t, promise, b+"more", someLimit, api.Frame{}, len(b), onStream(code, stream))
}

// checkWhole takes a frame with which nothing is wrong; with other bytes behind it, too.
func checkWhole(t *testing.T, promise, b string, want api.Frame) {
	t.Helper()
	checkTake(t, promise, b, someLimit, want, len(b), noFault)
	checkTake(t, promise, b+"more", someLimit, want, len(b), noFault)
}
