package frame

import (
	"drawbridge/api"
	"drawbridge/octet"
)

// highest is the bit above the 31 of a stream's number.
const highest = 1 << 31

// fault: what is wrong, told of a stream, or of the connection (0).
func fault(code int64, stream int) api.Fault {
	return api.Fault{Is: true, Code: code, Stream: stream}
}

// reading is bytes that are there to be read: whoever asks for some has counted them.
type reading struct{ rest []byte }

// number reads a number of so many bytes.
func (r *reading) number(size int) uint32 {
	n, _ := octet.Take(r.rest, 0, size)
	r.rest = r.rest[size:]
	return n
}

// low reads a number of 31 bits; the highest one isn't looked at.
func (r *reading) low() int { return int(r.number(4) &^ highest) }

// order reads Dep, Sole and Weight.
func (r *reading) order(f *api.Frame) {
	n := r.number(4)
	f.Dep, f.Sole = int(n&^highest), n&highest != 0
	f.Weight = int(r.number(1))
}

// numbers reads what stands ahead of the settings, or of the Data.
func (r *reading) numbers(f *api.Frame, p parts) {
	if p.pad {
		f.Pad = int(r.number(padSize))
	}
	if p.order {
		r.order(f)
	}
	if p.last {
		f.Last = r.low()
	}
	if p.code {
		f.Code = int64(r.number(numberSize))
	}
	if p.inc {
		f.Inc = int64(r.low())
	}
}

// settings reads all that is left.
func (r *reading) settings() []api.Setting {
	list := make([]api.Setting, 0, len(r.rest)/settingSize)
	for len(r.rest) > 0 {
		s := api.Setting{}
		s.ID = int(r.number(2))
		s.Value = int64(r.number(4))
		list = append(list, s)
	}
	return list
}

// head reads a frame's first bytes: the frame without its payload, and how long that is.
func head(b []byte) (api.Frame, int) {
	r := reading{b}
	size := int(r.number(3))
	f := api.Frame{}
	f.Type = int(r.number(1))
	f.Flags = int(r.number(1))
	f.Stream = r.low()
	return f, size
}

// fill reads a frame's payload; or tells what is wrong with the frame.
func fill(f *api.Frame, payload []byte) api.Fault {
	if !placed(f.Type, f.Stream) {
		return fault(api.Protocol, 0)
	}
	if !fits(f.Type, f.Flags, len(payload)) {
		return wrongSize(f)
	}
	r, p := reading{payload}, partsOf(f.Type, f.Flags)
	r.numbers(f, p)
	if f.Pad > len(r.rest) {
		return fault(api.Protocol, 0)
	}
	r.rest = r.rest[:len(r.rest)-f.Pad]
	if p.settings {
		f.Settings = r.settings()
	}
	if p.data {
		f.Data = string(r.rest)
	}
	return wrongValue(f)
}

// placed: whether frames of a type may come on such a stream, or on the connection (0).
func placed(kind, stream int) bool {
	switch kind {
	case api.Data, api.Headers, api.Priority, api.RstStream, api.Continuation:
		return stream != 0
	case api.Settings, api.Ping, api.GoAway:
		return stream == 0
	case api.PushPromise: // nobody lets the other end promise
		return false
	default:
		return true
	}
}

// wrongSize: the fault of a frame whose payload may not have its length.
func wrongSize(f *api.Frame) api.Fault {
	if f.Type == api.Priority {
		return fault(api.FrameSize, f.Stream)
	}
	return fault(api.FrameSize, 0)
}

// wrongValue: the fault of a frame in which a number has a value that may not be.
func wrongValue(f *api.Frame) api.Fault {
	if f.Type == api.WindowUpdate && f.Inc == 0 {
		return fault(api.Protocol, f.Stream)
	}
	for _, s := range f.Settings {
		if code := wrongSetting(s); code != api.NoError {
			return fault(code, 0)
		}
	}
	return api.Fault{}
}

// wrongSetting: the code of a setting whose value may not be; NoError, if it may.
func wrongSetting(s api.Setting) int64 {
	wrong, code := false, int64(api.Protocol)
	switch s.ID {
	case api.SetPush:
		wrong = s.Value > 1
	case api.SetWindow:
		wrong, code = s.Value > api.MaxNumber, api.FlowControl
	case api.SetFrame:
		wrong = s.Value < api.FirstFrame || s.Value > api.MaxFrame
	}
	if !wrong {
		return api.NoError
	}
	return code
}
