package prefix_test

import (
	"bytes"
	"strings"
	"testing"

	"drawbridge/api"
	"drawbridge/huff"
	"drawbridge/prefix"
)

// maxText is how many bytes a text may have.
const maxText = 4096

// plain: a text as it is, with its length ahead.
func plain(s string) []byte { return append(oneForm("0", 7, uint32(len(s))), s...) }

// coded: bits, with their length ahead.
func coded(bits string) []byte { return append(oneForm("1", 7, uint32(len(bits))), bits...) }

// texts are such as come, and such as don't.
func texts() []string {
	every := make([]byte, 256)
	for c := range every {
		every[c] = byte(c)
	}
	list := []string{
		"www.example.com", "no-cache", "custom-key", "custom-value", "302", "private", "Mon, 21 Oct 2013 20:13:21 GMT", "/", ":path",
		"foo=ASDJKHQKBZXOQWEOPIUAXQWEOIU; max-age=3600; version=1", "\u00e4\u20ac", "\xff\xfe\xfd", string(every), "&&&&", "a&a&", "<<<<", "aaa\x00", "aaaaaaaaaaa\x00",
	}
	// Lengths, of the text or of its bits, about the places where a length's form changes.
	for _, n := range []int{0, 1, 2, 3, 4, 8, 126, 127, 128, 202, 203, 204, 254, 255, 256, 1000, maxText - 1, maxText} {
		list = append(list, strings.Repeat("a", n), strings.Repeat("&", n), strings.Repeat("\x16", n))
	}
	for c := range 256 {
		s := string([]byte{byte(c)})
		list = append(list, s, s+s, s+"aaa", "0"+s+"0")
	}
	return list
}

// checkPutText holds an answer against the bytes that are asked for.
func checkPutText(t *testing.T, s string, want []byte) {
	t.Helper()
	if got := prefix.PutText(s); !bytes.Equal(got, want) {
		t.Errorf("P3.3: PutText(%.40q) = %.40x (%d bytes); not %.40x (%d bytes)", s, got, len(got), want, len(want))
	}
}

// TestPutText is of P3.3: the bits where these are fewer bytes, else the text; texts that are too long to be taken, too.
func TestPutText(t *testing.T) {
	for _, s := range append(texts(), strings.Repeat("a", maxText+1), strings.Repeat("\x16", maxText+1), strings.Repeat("a", 100000), strings.Repeat("\x16", 100000)) {
		if bits := huff.Encode(s); len(bits) < len(s) {
			checkPutText(t, s, coded(string(bits)))
		} else {
			checkPutText(t, s, plain(s))
		}
	}
}

// TestPutTextExamples is of P3.3: bytes as the chapter and RFC 7541 write them.
func TestPutTextExamples(t *testing.T) {
	for s, want := range map[string]string{
		"": "\x00", "a": "\x01a", "aa": "\x02aa", "aaa": "\x82\x18\xc7", "\x00": "\x01\x00", "\n\n\n": "\x03\n\n\n",
		// Their bits are just as many bytes, or one more.
		"&": "\x01&", "&&&&": "\x04&&&&", "a&": "\x02a&", "!": "\x01!", "a\x00": "\x02a\x00",
		"www.example.com": "\x8c\xf1\xe3\xc2\xe5\xf2\x3a\x6b\xa0\xab\x90\xf4\xff", "no-cache": "\x86\xa8\xeb\x10\x64\x9c\xbf",
		"custom-value": "\x89\x25\xa8\x49\xe9\x5b\xb8\xe8\xb4\xbf", "302": "\x82\x64\x02",
	} {
		checkPutText(t, s, []byte(want))
	}
	checkPutText(t, strings.Repeat("&", 127), []byte("\x7f\x00"+strings.Repeat("&", 127)))
	checkPutText(t, strings.Repeat("&", 300), []byte("\x7f\xad\x01"+strings.Repeat("&", 300)))
	// 203 letters of five bits are 127 bytes.
	checkPutText(t, strings.Repeat("0", 203), []byte("\xff\x00"+strings.Repeat("\x00", 126)+"\x01"))
}

// TestPutTextIsNew is of P3.3: what is answered shares nothing.
func TestPutTextIsNew(t *testing.T) {
	for s, want := range map[string]string{"aa": "\x02aa", "aaa": "\x82\x18\xc7"} {
		a, b := prefix.PutText(s), prefix.PutText(s)
		clear(a[:cap(a)])
		if string(b) != want {
			t.Errorf("P3.3: two answers share memory: %x", b)
		}
	}
}

// checkTakeText holds an answer against what is asked for.
func checkTakeText(t *testing.T, b []byte, s string, size int, e api.Errno) {
	t.Helper()
	if got, k, errno := prefix.TakeText(b); got != s || k != size || errno != e {
		t.Errorf("P3.4: TakeText(%.40x (%d bytes)) = %.40q, %d, %d; not %.40q, %d, %d", b, len(b), got, k, errno, s, size, e)
	}
}

// TestTakeText is of P3.4: as it is, and as bits, whichever is of fewer bytes; and ahead of other bytes.
func TestTakeText(t *testing.T) {
	for _, s := range texts() {
		bits := string(huff.Encode(s))
		for _, behind := range []string{"", "\x00", "a", "\xff\xff\xff\xff\xff\xff"} {
			b := plain(s)
			checkTakeText(t, append(b, behind...), s, len(b), api.OK)
			if len(bits) <= maxText {
				b = coded(bits)
				checkTakeText(t, append(b, behind...), s, len(b), api.OK)
			}
		}
	}
}

// TestTakeTextExamples is of P3.4.
func TestTakeTextExamples(t *testing.T) {
	for _, r := range []struct {
		b, s string
		size int
	}{
		{"\x82\x18\xc7", "aaa", 3}, {"\x82\x18\xc7aaa", "aaa", 3}, {"\x03aaa", "aaa", 4}, {"\x03aaab", "aaa", 4}, {"\x00", "", 1}, {"\x80", "", 1}, {"\x80\xff", "", 1},
		{"\x81\x1f", "a", 2}, {"\x81\x1f\x1f", "a", 2}, {"\x02\x18\xc7", "\x18\xc7", 3}, {"\x01\xff", "\xff", 2},
		// A length that isn't in its one form.
		{"\x7f\x80\x00" + strings.Repeat("b", 127), strings.Repeat("b", 127), 130},
		{"\xff\x80\x80\x80\x80\x00" + strings.Repeat("\xf8", 127), strings.Repeat("&", 127), 133},
	} {
		checkTakeText(t, []byte(r.b), r.s, r.size, api.OK)
	}
}

// TestTakeTextLength is of P3.4: TakeInt's errors of the length, and a text without all its bytes.
func TestTakeTextLength(t *testing.T) {
	for _, r := range []struct {
		b string
		e api.Errno
	}{
		{"", api.ErrShort}, {"\x7f", api.ErrShort}, {"\xff", api.ErrShort}, {"\x7f\x80", api.ErrShort}, {"\xff\xff\xff\xff\xff", api.ErrShort},
		{"\x7f\x81\xff\xff\xff\x07", api.ErrRange}, {"\x7f\x80\x80\x80\x80\x80", api.ErrRange}, {"\xff\xff\xff\xff\xff\xff", api.ErrRange},
		{"\x7f\x80\xff\xff\xff\x07", api.ErrLong}, {"\xff\x80\xff\xff\xff\x07", api.ErrLong},
		{"\x01", api.ErrShort}, {"\x02a", api.ErrShort}, {"\x81", api.ErrShort}, {"\x83\x18\xc7", api.ErrShort}, {"\x7f\x00" + strings.Repeat("b", 126), api.ErrShort},
		// Bytes are missing, and those that are there are no bits of a text: the former is told.
		{"\x82\x00", api.ErrShort}, {"\x82\xff", api.ErrShort}, {"\x85\xff\xff\xff\xff", api.ErrShort},
	} {
		checkTakeText(t, []byte(r.b), "", 0, r.e)
	}
}

// TestTakeTextBits is of P3.4: bits of no text.
func TestTakeTextBits(t *testing.T) {
	for _, bits := range []string{"\xff", "\x00", "\x06", "\xfe", "\x07\xff", "\x07\xff\xff", "\xff\xff\xff\xff", "\xff\xff\xff\xfc", "\x18\xc6", "\x18\xc7\xff"} {
		b := coded(bits)
		checkTakeText(t, b, "", 0, api.ErrForm)
		// What stands behind the text makes it no better.
		checkTakeText(t, append(b, "\x07aaa"...), "", 0, api.ErrForm)
		// Without the flag, they are a text.
		checkTakeText(t, plain(bits), bits, 1+len(bits), api.OK)
	}
}

// TestTakeTextLong is of P3.4: lengths at MaxText and above it, which is told ahead of bytes that are missing and of wrong bits.
func TestTakeTextLong(t *testing.T) {
	const most, above = "\x81\x1f", "\x82\x1f"
	for _, flag := range []string{"\x7f", "\xff"} {
		checkTakeText(t, []byte(flag+most), "", 0, api.ErrShort)
		checkTakeText(t, []byte(flag+most+strings.Repeat("&", maxText-1)), "", 0, api.ErrShort)
		checkTakeText(t, []byte(flag+above), "", 0, api.ErrLong)
		checkTakeText(t, []byte(flag+above+strings.Repeat("\xff", maxText)), "", 0, api.ErrLong)
		checkTakeText(t, []byte(flag+above+strings.Repeat("\xff", maxText+1)), "", 0, api.ErrLong)
		checkTakeText(t, []byte(flag+above+strings.Repeat("\xf8", maxText+2)), "", 0, api.ErrLong)
	}
	checkTakeText(t, []byte("\x7f"+most+strings.Repeat("&", maxText+1)), strings.Repeat("&", maxText), maxText+3, api.OK)
	checkTakeText(t, []byte("\xff"+most+strings.Repeat("\xf8", maxText+1)), strings.Repeat("&", maxText), maxText+3, api.OK)
}

// TestTakeTextLongBits is of P3.4: bits that aren't too long, of a text that is; and, ahead of that, of no text.
func TestTakeTextLongBits(t *testing.T) {
	for _, c := range []string{"0", "a", "A"} {
		b := coded(string(huff.Encode(strings.Repeat(c, maxText))))
		checkTakeText(t, b, strings.Repeat(c, maxText), len(b), api.OK)
		checkTakeText(t, coded(string(huff.Encode(strings.Repeat(c, maxText+1)))), "", 0, api.ErrLong)
	}
	zeros := strings.Repeat("\x00", maxText-1)
	checkTakeText(t, coded(zeros+"\x07"), "", 0, api.ErrLong)
	checkTakeText(t, coded(zeros+"\x00"), "", 0, api.ErrForm)
	checkTakeText(t, coded(zeros[4:]+"\xff\xff\xff\xff"), "", 0, api.ErrForm)
}

// TestTakeTextLeavesBytes is of P3.4: what is handed in isn't changed, and isn't kept.
func TestTakeTextLeavesBytes(t *testing.T) {
	for _, all := range []string{"\x03aaa...", "\x82\x18\xc7..."} {
		b := []byte(all)
		s, _, e := prefix.TakeText(b[:len(b)-3])
		if string(b) != all {
			t.Errorf("P3.4: TakeText changed what it was handed: %x", b)
		}
		clear(b)
		if s != "aaa" || e != api.OK {
			t.Errorf("P3.4: TakeText = %q, %d", s, e)
		}
	}
}

// TestPutTakeText is of P3.5: what is put is taken as it was, whatever stands behind it; not without its last byte.
func TestPutTakeText(t *testing.T) {
	for _, s := range texts() {
		b := prefix.PutText(s)
		if u, k, e := prefix.TakeText(b[:len(b)-1]); u != "" || k != 0 || e != api.ErrShort {
			t.Errorf("P3.5: TakeText of PutText(%.40q), cut = %.40q, %d, %d", s, u, k, e)
		}
		for _, behind := range []string{"", "\x00", "a", "\xff\xff\xff\xff\xff\xff"} {
			if u, k, e := prefix.TakeText(append(bytes.Clone(b), behind...)); u != s || k != len(b) || e != api.OK {
				t.Errorf("P3.5: TakeText of PutText(%.40q) and %x = %.40q, %d, %d", s, behind, u, k, e)
			}
		}
	}
}
