package frame

import "drawbridge/api"

// How many bytes the numbers of a payload have.
const (
	padSize     = 1
	orderSize   = 5 // Dep, Sole in its highest bit, and Weight
	numberSize  = 4 // Last, Code, Inc
	settingSize = 6
)

// parts: what a frame has beside Type, Flags and Stream, in the order in which
// it stands in the payload.
type parts struct {
	pad      bool
	order    bool // Dep, Weight, Sole
	last     bool
	code     bool
	inc      bool
	settings bool
	data     bool
}

// partsOf: what frames of a type, with such flags, have.
func partsOf(kind, flags int) parts {
	p := parts{}
	switch kind {
	case api.Headers:
		p.order = flags&api.FlagPriority != 0
		fallthrough
	case api.Data:
		p.pad = flags&api.FlagPadded != 0
		p.data = true
	case api.GoAway:
		p.last, p.data = true, true
		fallthrough
	case api.RstStream:
		p.code = true
	case api.Priority:
		p.order = true
	case api.Settings:
		p.settings = true
	case api.WindowUpdate:
		p.inc = true
	default:
		p.data = true
	}
	return p
}

// ahead: how many bytes stand ahead of the settings, or of the Data.
func (p parts) ahead() int {
	size := 0
	if p.pad {
		size += padSize
	}
	if p.order {
		size += orderSize
	}
	for _, there := range [...]bool{p.last, p.code, p.inc} {
		if there {
			size += numberSize
		}
	}
	return size
}

// span: lengths that a payload may have, from the least one to the most by steps.
type span struct{ least, most, step int }

// spans: those of each type. Where flags are to be looked at, too, fits does.
var spans = [...]span{
	api.Data:         {0, api.MaxFrame, 1},
	api.Headers:      {0, api.MaxFrame, 1},
	api.Priority:     {5, 5, 1},
	api.RstStream:    {4, 4, 1},
	api.Settings:     {0, api.MaxFrame, 6},
	api.PushPromise:  {0, api.MaxFrame, 1},
	api.Ping:         {8, 8, 1},
	api.GoAway:       {8, api.MaxFrame, 1},
	api.WindowUpdate: {4, 4, 1},
	api.Continuation: {0, api.MaxFrame, 1},
}

// fits: whether a payload may have so many bytes.
func fits(kind, flags, size int) bool {
	if kind >= len(spans) {
		return true
	}
	if kind == api.Settings && flags&api.FlagAck != 0 {
		return size == 0
	}
	s := spans[kind]
	return s.least <= size && size <= s.most && size%s.step == 0 && size >= partsOf(kind, flags).ahead()
}
