package octet

import (
	"strconv"

	"drawbridge/api"
)

// number: what a text of digits says in a base. ErrForm, ErrRange.
func number(s string, base int64) (int64, api.Errno) {
	if s == "" {
		return 0, api.ErrForm
	}
	n := int64(0)
	for i := range len(s) {
		d, ok := worth(s[i])
		if !ok || d >= base {
			return 0, api.ErrForm
		}
		// Above Greatest it needn't grow, so it can't wrap round; but it must be
		// read to its end, for a wrong byte there is told ahead of the range.
		n = min(n*base+d, api.Greatest+1)
	}
	if n > api.Greatest {
		return 0, api.ErrRange
	}
	return n, api.OK
}

// worth: what a digit says, and whether it is one of base sixteen.
func worth(c byte) (int64, bool) {
	c = small(c)
	switch {
	case '0' <= c && c <= '9':
		return int64(c - '0'), true
	case 'a' <= c && c <= 'f':
		return int64(c-'a') + 10, true
	}
	return 0, false
}

// text: a number's digits in a base; "" below 0.
func text(n int64, base int) string {
	if n < 0 {
		return ""
	}
	return strconv.FormatInt(n, base)
}
