package frame

import (
	"math"

	"drawbridge/api"
	"drawbridge/octet"
)

// within: whether a number is one from 0 to most.
func within[N int | int64](n, most N) bool { return 0 <= n && n <= most }

// writable: whether a frame may be written.
func writable(f api.Frame) bool {
	if !inRange(f) || !bare(f, partsOf(f.Type, f.Flags)) {
		return false
	}
	for _, s := range f.Settings {
		if !within(s.ID, math.MaxUint16) || !within(s.Value, math.MaxUint32) {
			return false
		}
	}
	return true
}

// inRange: whether each of a frame's own numbers has room in its bytes.
func inRange(f api.Frame) bool {
	return within(f.Type, math.MaxUint8) && within(f.Flags, math.MaxUint8) &&
		within(f.Stream, api.MaxNumber) && within(f.Last, api.MaxNumber) &&
		within(f.Dep, api.MaxNumber) && within(f.Inc, api.MaxNumber) &&
		within(f.Pad, math.MaxUint8) && within(f.Weight, math.MaxUint8) &&
		within(f.Code, math.MaxUint32)
}

// bare: whether all is zero that isn't among the parts.
func bare(f api.Frame, p parts) bool {
	return (p.pad || f.Pad == 0) &&
		(p.order || f.Dep == 0 && f.Weight == 0 && !f.Sole) &&
		(p.last || f.Last == 0) &&
		(p.code || f.Code == 0) &&
		(p.inc || f.Inc == 0) &&
		(p.settings || len(f.Settings) == 0) &&
		(p.data || f.Data == "")
}

// payloadSize: how many bytes a payload has. What a frame doesn't have is zero, and adds none.
func payloadSize(f api.Frame) int {
	return partsOf(f.Type, f.Flags).ahead() + settingSize*len(f.Settings) + len(f.Data) + f.Pad
}

// writing is bytes that become a frame.
type writing struct{ b []byte }

// number writes a number's bytes.
func (w *writing) number(n int64, size int) {
	w.b = append(w.b, octet.Put(uint32(n), size)...)
}

// head writes what stands ahead of a payload of such a size.
func (w *writing) head(f api.Frame, size int) {
	w.number(int64(size), 3)
	w.number(int64(f.Type), 1)
	w.number(int64(f.Flags), 1)
	w.number(int64(f.Stream), 4)
}

// payload writes what the frame has.
func (w *writing) payload(f api.Frame) {
	p := partsOf(f.Type, f.Flags)
	if p.pad {
		w.number(int64(f.Pad), padSize)
	}
	if p.order {
		w.order(f)
	}
	if p.last {
		w.number(int64(f.Last), numberSize)
	}
	if p.code {
		w.number(f.Code, numberSize)
	}
	if p.inc {
		w.number(f.Inc, numberSize)
	}
	for _, s := range f.Settings {
		w.number(int64(s.ID), 2)
		w.number(s.Value, 4)
	}
	w.b = append(w.b, f.Data...)
	w.b = append(w.b, make([]byte, f.Pad)...)
}

// order writes Dep, Sole and Weight.
func (w *writing) order(f api.Frame) {
	n := int64(f.Dep)
	if f.Sole {
		n |= highest
	}
	w.number(n, 4)
	w.number(int64(f.Weight), 1)
}
