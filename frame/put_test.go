package frame_test

import (
	"math"
	"slices"
	"strings"
	"testing"

	"drawbridge/api"
	"drawbridge/frame"
)

// ordinary frames, and their bytes as they are written down.
var ordinary = []struct {
	f     api.Frame
	bytes string
}{
	{api.Frame{Type: 0, Stream: 1}, "\x00\x00\x00\x00\x00\x00\x00\x00\x01"},
	{api.Frame{Type: 0, Flags: 1, Stream: 1, Data: "body"}, "\x00\x00\x04\x00\x01\x00\x00\x00\x01body"},
	{api.Frame{Type: 0, Flags: 9, Stream: 3, Data: "ab", Pad: 3}, "\x00\x00\x06\x00\x09\x00\x00\x00\x03\x03ab\x00\x00\x00"},
	{api.Frame{Type: 0, Flags: 8, Stream: 3, Data: "ab"}, "\x00\x00\x03\x00\x08\x00\x00\x00\x03\x00ab"},
	{api.Frame{Type: 0, Flags: 8, Stream: 3, Pad: 1}, "\x00\x00\x02\x00\x08\x00\x00\x00\x03\x01\x00"},
	{api.Frame{Type: 0, Flags: 32, Stream: 3, Data: "ab"}, "\x00\x00\x02\x00\x20\x00\x00\x00\x03ab"},
	{api.Frame{Type: 1, Flags: 4, Stream: 5, Data: "\x82"}, "\x00\x00\x01\x01\x04\x00\x00\x00\x05\x82"},
	{api.Frame{Type: 1, Flags: 12, Stream: 5, Data: "\x82", Pad: 2}, "\x00\x00\x04\x01\x0c\x00\x00\x00\x05\x02\x82\x00\x00"},
	{api.Frame{Type: 1, Flags: 36, Stream: 5, Data: "\x82", Dep: 3, Weight: 200}, "\x00\x00\x06\x01\x24\x00\x00\x00\x05\x00\x00\x00\x03\xc8\x82"},
	{api.Frame{Type: 1, Flags: 36, Stream: 5, Sole: true}, "\x00\x00\x05\x01\x24\x00\x00\x00\x05\x80\x00\x00\x00\x00"},
	{api.Frame{Type: 1, Flags: 45, Stream: 5, Data: "xy", Pad: 1, Dep: 0x1020304, Weight: 5, Sole: true}, "\x00\x00\x09\x01\x2d\x00\x00\x00\x05\x01\x81\x02\x03\x04\x05xy\x00"},
	{api.Frame{Type: 2, Stream: 7, Dep: 5, Weight: 15, Sole: true}, "\x00\x00\x05\x02\x00\x00\x00\x00\x07\x80\x00\x00\x05\x0f"},
	{api.Frame{Type: 2, Flags: 40, Stream: 7, Dep: 5, Weight: 15}, "\x00\x00\x05\x02\x28\x00\x00\x00\x07\x00\x00\x00\x05\x0f"},
	{api.Frame{Type: 3, Stream: 7, Code: 8}, "\x00\x00\x04\x03\x00\x00\x00\x00\x07\x00\x00\x00\x08"},
	{api.Frame{Type: 4}, "\x00\x00\x00\x04\x00\x00\x00\x00\x00"},
	{api.Frame{Type: 4, Flags: 1}, "\x00\x00\x00\x04\x01\x00\x00\x00\x00"},
	{api.Frame{Type: 4, Settings: []api.Setting{{ID: 4, Value: 100}}}, "\x00\x00\x06\x04\x00\x00\x00\x00\x00\x00\x04\x00\x00\x00\x64"},
	{api.Frame{Type: 4, Settings: []api.Setting{{ID: 0x102, Value: 0x3040506}, {ID: 1, Value: 0}, {ID: 1, Value: 7}}},
		"\x00\x00\x12\x04\x00\x00\x00\x00\x00\x01\x02\x03\x04\x05\x06\x00\x01\x00\x00\x00\x00\x00\x01\x00\x00\x00\x07"},
	{api.Frame{Type: 6, Data: "12345678"}, "\x00\x00\x08\x06\x00\x00\x00\x00\x0012345678"},
	{api.Frame{Type: 6, Flags: 1, Data: "12345678"}, "\x00\x00\x08\x06\x01\x00\x00\x00\x0012345678"},
	{api.Frame{Type: 7, Last: 5, Code: 1}, "\x00\x00\x08\x07\x00\x00\x00\x00\x00\x00\x00\x00\x05\x00\x00\x00\x01"},
	{api.Frame{Type: 7, Last: 0x1020304, Code: 0xf1f2f3f4, Data: "why"}, "\x00\x00\x0b\x07\x00\x00\x00\x00\x00\x01\x02\x03\x04\xf1\xf2\xf3\xf4why"},
	{api.Frame{Type: 8, Inc: 5}, "\x00\x00\x04\x08\x00\x00\x00\x00\x00\x00\x00\x00\x05"},
	{api.Frame{Type: 8, Stream: 1, Inc: 5}, "\x00\x00\x04\x08\x00\x00\x00\x00\x01\x00\x00\x00\x05"},
	{api.Frame{Type: 9, Flags: 4, Stream: 0x1020304, Data: "rest"}, "\x00\x00\x04\x09\x04\x01\x02\x03\x04rest"},
	{api.Frame{Type: 10, Flags: 0xff, Data: "x"}, "\x00\x00\x01\x0a\xff\x00\x00\x00\x00x"},
	{api.Frame{Type: 0xff, Flags: 8, Stream: max31}, "\x00\x00\x00\xff\x08\x7f\xff\xff\xff"},
}

// TestPut is of P6.1: each type of frame, with and without what its flags ask for.
func TestPut(t *testing.T) {
	for _, r := range ordinary {
		checkPut(t, "P6.1", r.f, r.bytes)
		if s := bytesOf(r.f); s != r.bytes {
			t.Errorf("the tests' own bytes of %s: %x", say(r.f), s)
		}
	}
}

// TestPutNotTaken is of P6.1: what may be written though it is a fault where it is taken.
func TestPutNotTaken(t *testing.T) {
	for _, f := range []api.Frame{
		{Type: 0, Data: "x"}, {Type: 1, Data: "x"}, {Type: 2, Dep: 1}, {Type: 3, Code: 1}, {Type: 9},
		{Type: 4, Stream: 1}, {Type: 6, Stream: 1, Data: "12345678"}, {Type: 7, Stream: 3, Last: 1},
		{Type: 5, Stream: 1, Data: "promised"}, {Type: 5}, {Type: 5, Flags: 8, Data: "x"},
		{Type: 6}, {Type: 6, Data: "1234567"}, {Type: 6, Data: "123456789"},
		{Type: 8, Stream: 1}, {Type: 8},
		{Type: 4, Flags: 1, Settings: []api.Setting{{ID: 1, Value: 1}}},
		{Type: 4, Settings: []api.Setting{{ID: 2, Value: 2}, {ID: 4, Value: 1 << 31}, {ID: 5, Value: 1}, {ID: 5, Value: 1 << 24}}},
	} {
		b := bytesOf(f)
		checkPut(t, "P6.1", f, b)
		if _, _, x := frame.Take([]byte(b), someLimit); !x.Is {
			t.Errorf("P6.2: Take(%x): no fault", b)
		}
	}
}

// aNumber is a number of a frame: how it is set, the greatest that it may be,
// and a frame that has it.
type aNumber struct {
	name string
	most int64
	f    api.Frame
	set  func(f *api.Frame, n int64)
}

func numbers() []aNumber {
	full := api.Frame{Type: 1, Flags: padded | priority, Stream: 1, Data: "x"}
	return []aNumber{
		{"Type", 255, api.Frame{}, func(f *api.Frame, n int64) { f.Type = int(n) }},
		{"Flags", 255, api.Frame{}, func(f *api.Frame, n int64) { f.Flags = int(n) }},
		{"Flags", 255, api.Frame{Type: 4}, func(f *api.Frame, n int64) { f.Flags = int(n) }},
		{"Stream", max31, api.Frame{}, func(f *api.Frame, n int64) { f.Stream = int(n) }},
		{"Stream", max31, api.Frame{Type: 77}, func(f *api.Frame, n int64) { f.Stream = int(n) }},
		{"Pad", 255, api.Frame{Flags: padded}, func(f *api.Frame, n int64) { f.Pad = int(n) }},
		{"Pad", 255, full, func(f *api.Frame, n int64) { f.Pad = int(n) }},
		{"Dep", max31, full, func(f *api.Frame, n int64) { f.Dep = int(n) }},
		{"Dep", max31, api.Frame{Type: 2, Sole: true}, func(f *api.Frame, n int64) { f.Dep = int(n) }},
		{"Weight", 255, full, func(f *api.Frame, n int64) { f.Weight = int(n) }},
		{"Weight", 255, api.Frame{Type: 2}, func(f *api.Frame, n int64) { f.Weight = int(n) }},
		{"Code", max32, api.Frame{Type: 3}, func(f *api.Frame, n int64) { f.Code = n }},
		{"Code", max32, api.Frame{Type: 7, Last: 1}, func(f *api.Frame, n int64) { f.Code = n }},
		{"Last", max31, api.Frame{Type: 7, Code: 1}, func(f *api.Frame, n int64) { f.Last = int(n) }},
		{"Inc", max31, api.Frame{Type: 8}, func(f *api.Frame, n int64) { f.Inc = n }},
		{"ID", 65535, api.Frame{Type: 4}, func(f *api.Frame, n int64) { f.Settings = []api.Setting{{ID: int(n), Value: 1}} }},
		{"ID", 65535, api.Frame{Type: 4}, func(f *api.Frame, n int64) { f.Settings = []api.Setting{{ID: 1}, {ID: 2}, {ID: int(n)}} }},
		{"Value", max32, api.Frame{Type: 4}, func(f *api.Frame, n int64) { f.Settings = []api.Setting{{ID: 3, Value: n}} }},
		{"Value", max32, api.Frame{Type: 4}, func(f *api.Frame, n int64) { f.Settings = []api.Setting{{}, {ID: 9, Value: n}, {}} }},
		{"Value", max32, api.Frame{Type: 4}, func(f *api.Frame, n int64) { f.Settings = []api.Setting{{ID: 5, Value: n}} }},
	}
}

// TestPutRanges is of P6.1: each number at the ends of its range, and outside of it.
func TestPutRanges(t *testing.T) {
	for _, x := range numbers() {
		for _, n := range []int64{0, 1, x.most / 2, x.most - 1, x.most} {
			f := x.f
			x.set(&f, n)
			checkPut(t, "P6.1 "+x.name, f, bytesOf(f))
		}
		for _, n := range []int64{-1, -2, -x.most, -x.most - 1, x.most + 1, 2 * (x.most + 1), 1 << 32, 1<<32 + 1, 1 << 62, math.MaxInt64, math.MinInt64, math.MinInt64 + 1} {
			f := x.f
			x.set(&f, n)
			checkPutWrong(t, "P6.1 "+x.name, f, api.ErrArg)
		}
	}
}

// fields: how each field that not all types have comes to be something; by the letter of its part.
var fields = map[rune][]func(*api.Frame){
	'p': {func(f *api.Frame) { f.Pad = 1 }},
	'o': {func(f *api.Frame) { f.Dep = 1 }, func(f *api.Frame) { f.Weight = 1 }, func(f *api.Frame) { f.Sole = true }},
	'l': {func(f *api.Frame) { f.Last = 1 }},
	'c': {func(f *api.Frame) { f.Code = 1 }},
	'i': {func(f *api.Frame) { f.Inc = 1 }},
	's': {func(f *api.Frame) { f.Settings = []api.Setting{{}} }},
	'd': {func(f *api.Frame) { f.Data = "\x00" }},
}

// TestPutParts is of P6.1: of each type, with each of all flags, the fields that it has, and those that it doesn't have.
func TestPutParts(t *testing.T) {
	for kind := range 256 {
		for flags := range 256 {
			checkPut(t, "P6.1", api.Frame{Type: kind, Flags: flags, Settings: []api.Setting{}}, bytesOf(api.Frame{Type: kind, Flags: flags}))
			for part, sets := range fields {
				for _, set := range sets {
					f := api.Frame{Type: kind, Flags: flags, Stream: 1}
					set(&f)
					if strings.ContainsRune(shapeOf(kind, flags), part) {
						checkPut(t, "P6.1", f, bytesOf(f))
					} else {
						checkPutWrong(t, "P6.1", f, api.ErrArg)
					}
				}
			}
		}
	}
}

// TestPutLong is of P6.1: a payload of as many bytes as may be, and of one more.
func TestPutLong(t *testing.T) {
	for _, r := range []struct {
		f     api.Frame
		other int // bytes of the payload beside the Data
	}{
		{api.Frame{Type: 0}, 0}, {api.Frame{Type: 0, Flags: padded}, 1}, {api.Frame{Type: 0, Flags: padded, Pad: 255}, 256},
		{api.Frame{Type: 1}, 0}, {api.Frame{Type: 1, Flags: priority}, 5}, {api.Frame{Type: 1, Flags: padded | priority, Pad: 10}, 16},
		{api.Frame{Type: 5}, 0}, {api.Frame{Type: 6}, 0}, {api.Frame{Type: 7}, 8}, {api.Frame{Type: 9}, 0}, {api.Frame{Type: 200}, 0},
	} {
		r.f.Data = strings.Repeat("x", maxPayload-r.other)
		checkPut(t, "P6.1", r.f, bytesOf(r.f))
		r.f.Data += "y"
		checkPutWrong(t, "P6.1", r.f, api.ErrLong)
		r.f.Inc = 1
		checkPutWrong(t, "P6.1", r.f, api.ErrArg)
	}
	f := api.Frame{Type: 0, Flags: padded, Data: strings.Repeat("x", maxPayload-10)}
	for pad, want := range map[int]api.Errno{9: api.OK, 10: api.ErrLong, 255: api.ErrLong, 256: api.ErrArg} {
		f.Pad = pad
		if b, e := frame.Put(f); e != want || (len(b) == headSize+maxPayload) != (e == api.OK) {
			t.Errorf("P6.1: Put(%s): %d bytes, %d; not %d", say(f), len(b), e, want)
		}
	}
}

// TestPutManySettings is of P6.1: a payload of settings has no more bytes than others.
func TestPutManySettings(t *testing.T) {
	f := api.Frame{Type: 4, Settings: make([]api.Setting, maxPayload/6)}
	checkPut(t, "P6.1", f, bytesOf(f))
	f.Settings = append(f.Settings, api.Setting{})
	checkPutWrong(t, "P6.1", f, api.ErrLong)
	f.Settings[len(f.Settings)-1].ID = -1
	checkPutWrong(t, "P6.1", f, api.ErrArg)
	f.Settings[len(f.Settings)-1] = api.Setting{ID: 1, Value: 1 << 32}
	checkPutWrong(t, "P6.1", f, api.ErrArg)
}

// TestPutKeepsNothing is of P6.1: what is handed in stays as it is, its spare room too, and what is answered is new.
func TestPutKeepsNothing(t *testing.T) {
	room := []api.Setting{{ID: 1, Value: 2}, {ID: 3, Value: 4}, {ID: 5, Value: 6}}
	f := api.Frame{Type: 4, Settings: room[:2]}
	a, _ := frame.Put(f)
	b, _ := frame.Put(f)
	if !slices.Equal(room, []api.Setting{{ID: 1, Value: 2}, {ID: 3, Value: 4}, {ID: 5, Value: 6}}) {
		t.Errorf("P6.1: the settings became %v", room)
	}
	for i := range a[:cap(a)] {
		a[:cap(a)][i] = 0xee
	}
	room[0] = api.Setting{ID: 99, Value: 99}
	if want := bytesOf(api.Frame{Type: 4, Settings: []api.Setting{{ID: 1, Value: 2}, {ID: 3, Value: 4}}}); string(b) != want {
		t.Errorf("P6.1: bytes became %x, not %x", b, want)
	}
}
