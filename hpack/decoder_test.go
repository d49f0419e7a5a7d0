package hpack_test

import (
	"bytes"
	"math"
	"strings"
	"testing"

	"drawbridge/api"
	"drawbridge/hpack"
	"drawbridge/prefix"
)

// TestNewDecoder is of P5.1 and P5.2: a table's most is at first the lesser one of the cap and FirstTable, and may change up to the cap.
func TestNewDecoder(t *testing.T) {
	for _, most := range []int{0, 1, 31, 32, 33, 100, firstMost - 1, firstMost, firstMost + 1, 5000, maxMost - 1, maxMost} {
		d := decoderOf(t, most, noLimit)
		checkRows(t, "P5.1", d.Rows())
		first := min(most, firstMost)
		if first >= perField {
			just := field("", long(first-perField))
			checkDecode(t, "P5.1", d, addPart(0, "", just.Value), just)
			checkRows(t, "P5.1", d.Rows(), just)
		}
		above := field("", long(max(0, first-perField+1)))
		checkDecode(t, "P5.1", d, addPart(0, "", above.Value), above)
		checkRows(t, "P5.1", d.Rows())
		checkDecode(t, "P5.2", d, sizePart(most))
		checkError(t, "P5.2", d, sizePart(most+1), api.ErrUpdate)
	}
}

// TestNewDecoderWrong is of P5.1: caps and list limits that may not be.
func TestNewDecoderWrong(t *testing.T) {
	for _, most := range []int{-1, -32, maxMost + 1, 2 * maxMost, 1 << 32, math.MinInt, math.MaxInt} {
		for _, list := range []int{-1, 0, 10000} {
			if d, e := hpack.NewDecoder(most, list); d != nil || e != api.ErrArg {
				t.Errorf("P5.1: NewDecoder(%d, %d) = %v, %d", most, list, d, e)
			}
		}
	}
	for _, list := range []int{-1, -32, math.MinInt} {
		if d, e := hpack.NewDecoder(firstMost, list); d != nil || e != api.ErrArg {
			t.Errorf("P5.1: NewDecoder(4096, %d) = %v, %d", list, d, e)
		}
	}
}

// TestChapter is of P5.2 and P5.5: the chapter's examples.
func TestChapter(t *testing.T) {
	d := decoderOf(t, firstMost, noLimit)
	host := field(":authority", "www.example.com")
	checkDecode(t, "P5.2", d, sixteens("82 86 84 41 0f")+"www.example.com", field(":method", "GET"), field(":scheme", "http"), field(":path", "/"), host)
	checkRows(t, "P5.5", d.Rows(), host)
	checkDecode(t, "P5.2", d, "\xbe", host)
	checkRows(t, "P5.5", d.Rows(), host)
	checkError(t, "P5.2", decoderOf(t, firstMost, noLimit), "\x80", api.ErrIndex)
	checkError(t, "P5.2", decoderOf(t, firstMost, noLimit), "\xff\x00", api.ErrIndex)
	checkError(t, "P5.2", decoderOf(t, firstMost, noLimit), "\x82\x20", api.ErrUpdate)
}

// TestDecodeRequests is of P5.2: blocks of RFC 7541, C.2 and C.4.
func TestDecodeRequests(t *testing.T) {
	custom := field("custom-key", "custom-header")
	d := decoderOf(t, firstMost, noLimit)
	checkDecode(t, "P5.2", d, sixteens("40 0a 63 75 73 74 6f 6d 2d 6b 65 79 0d 63 75 73 74 6f 6d 2d 68 65 61 64 65 72"), custom)
	checkDecode(t, "P5.2", d, sixteens("04 0c 2f 73 61 6d 70 6c 65 2f 70 61 74 68"), field(":path", "/sample/path"))
	checkDecode(t, "P5.2", d, sixteens("10 08 70 61 73 73 77 6f 72 64 06 73 65 63 72 65 74"), never("password", "secret"))
	checkDecode(t, "P5.2", d, "\x82", field(":method", "GET"))
	checkRows(t, "P5.2", d.Rows(), custom)

	d = decoderOf(t, firstMost, noLimit)
	get, host, cache := field(":method", "GET"), field(":authority", "www.example.com"), field("cache-control", "no-cache")
	custom = field("custom-key", "custom-value")
	checkDecode(t, "P5.2", d, sixteens("82 86 84 41 8c f1 e3 c2 e5 f2 3a 6b a0 ab 90 f4 ff"), get, field(":scheme", "http"), field(":path", "/"), host)
	checkDecode(t, "P5.2", d, sixteens("82 86 84 be 58 86 a8 eb 10 64 9c bf"), get, field(":scheme", "http"), field(":path", "/"), host, cache)
	checkDecode(t, "P5.2", d, sixteens("82 87 85 bf 40 88 25 a8 49 e9 5b a9 7d 7f 89 25 a8 49 e9 5b b8 e8 b4 bf"), get, field(":scheme", "https"), field(":path", "/index.html"), host, custom)
	checkRows(t, "P5.5", d.Rows(), custom, cache, host)
}

// TestDecodeAnswers is of P5.2: the blocks of RFC 7541, C.5 and C.6; old rows go.
func TestDecodeAnswers(t *testing.T) {
	plain := []string{
		sixteens("48 03") + "302" + sixteens("58 07") + "private" + sixteens("61 1d") + "Mon, 21 Oct 2013 20:13:21 GMT" + sixteens("6e 17") + "https://www.example.com",
		sixteens("48 03") + "307" + sixteens("c1 c0 bf"),
		sixteens("88 c1 61 1d") + "Mon, 21 Oct 2013 20:13:22 GMT" + sixteens("c0 5a 04") + "gzip" + sixteens("77 38") + "foo=ASDJKHQKBZXOQWEOPIUAXQWEOIU; max-age=3600; version=1",
	}
	coded := []string{
		sixteens("48 82 64 02 58 85 ae c3 77 1a 4b 61 96 d0 7a be 94 10 54 d4 44 a8 20 05 95 04 0b 81 66 e0 82 a6 2d 1b ff 6e 91 9d 29 ad 17 18 63 c7 8f 0b 97 c8 e9 ae 82 ae 43 d3"),
		sixteens("48 83 64 0e ff c1 c0 bf"),
		sixteens("88 c1 61 96 d0 7a be 94 10 54 d4 44 a8 20 05 95 04 0b 81 66 e0 84 a6 2d 1b ff c0 5a 83 9b d9 ab 77 ad 94 e7 82 1d d7 f2 e6 c7 b3 35 df df cd 5b 39 60 d5 af 27 08 7f 36 72 c1 ab 27 0f b5 29 1f 95 87 31 60 65 c0 03 ed 4e e5 b1 06 3d 50 07"),
	}
	private, location := field("cache-control", "private"), field("location", "https://www.example.com")
	date, later := field("date", "Mon, 21 Oct 2013 20:13:21 GMT"), field("date", "Mon, 21 Oct 2013 20:13:22 GMT")
	s302, s307 := field(":status", "302"), field(":status", "307")
	gzip, cookie := field("content-encoding", "gzip"), field("set-cookie", "foo=ASDJKHQKBZXOQWEOPIUAXQWEOIU; max-age=3600; version=1")
	for _, blocks := range [][]string{plain, coded} {
		d := decoderOf(t, 256, noLimit)
		checkDecode(t, "P5.2", d, blocks[0], s302, private, date, location)
		checkRows(t, "P5.5", d.Rows(), location, date, private, s302)
		checkDecode(t, "P5.2", d, blocks[1], s307, private, date, location)
		checkRows(t, "P5.5", d.Rows(), s307, location, date, private)
		checkDecode(t, "P5.2", d, blocks[2], field(":status", "200"), private, later, location, gzip, cookie)
		checkRows(t, "P5.5", d.Rows(), cookie, gzip, later)
	}
}

// TestForms is of P5.2: each form, its name a text, one of a row that never changes, one of a row that came; the latter's value plays no part.
func TestForms(t *testing.T) {
	forms := []struct {
		part  func(row int, name, value string) string
		make  func(name, value string) api.Field
		comes bool
	}{{addPart, field, true}, {plainPart, field, false}, {neverPart, never, false}}
	for _, form := range forms {
		for _, value := range []string{"", "x", "a value", "\x00\xff\r\n", long(126), long(127), long(maxText - 100)} {
			for _, name := range []struct {
				row  int
				name string
			}{{0, ""}, {0, "n"}, {0, "Name: \n"}, {0, "a"}, {0, ":path"}, {1, ":authority"}, {2, ":method"}, {14, ":status"}, {15, "accept-charset"}, {16, "accept-encoding"}, {30, "content-range"}, {31, "content-type"}, {61, "www-authenticate"}, {62, "c"}, {63, "a"}} {
				d := decoderOf(t, maxMost, noLimit, sizePart(maxMost)+addPart(0, "a", "b")+addPart(0, "c", "d"))
				want := form.make(name.name, value)
				checkDecode(t, "P5.2", d, form.part(name.row, name.name, value), want)
				if form.comes {
					checkRows(t, "P5.2", d.Rows(), want, field("c", "d"), field("a", "b"))
				} else {
					checkRows(t, "P5.2", d.Rows(), field("c", "d"), field("a", "b"))
				}
			}
		}
	}
}

// TestRowParts is of P5.2: fields of all rows that never change, of the last row, and none of the one behind it.
func TestRowParts(t *testing.T) {
	d := decoderOf(t, maxMost, noLimit, sizePart(maxMost))
	all := rows{}
	for n := 1; n <= fixed; n++ {
		f, _ := all.at(n)
		checkDecode(t, "P5.2", d, rowPart(n), f)
	}
	for came := range 80 {
		last := fixed + came
		for _, block := range []string{rowPart(last + 1), rowPart(last + 2), addPart(last+1, "", "v"), plainPart(last+1, "", "v"), neverPart(last+1, "", "v")} {
			broken := decoderOf(t, firstMost, noLimit, strings.Repeat(addPart(0, "a", "b"), came))
			checkError(t, "P5.2", broken, block, api.ErrIndex)
		}
		if came > 0 {
			f := field("a", strings.Repeat("x", came-1))
			checkDecode(t, "P5.2", d, addPart(0, "a", f.Value), f)
			checkDecode(t, "P5.2", d, rowPart(fixed+1), f)
			checkDecode(t, "P5.2", d, rowPart(last)+neverPart(last, "", "v"), field("a", ""), never("a", "v"))
		}
	}
}

// TestRowsComeAtOnce is of P5.2: a field that comes into the table is there for the parts behind it in its block, and may push out the row that it takes its name of.
func TestRowsComeAtOnce(t *testing.T) {
	d := decoderOf(t, 70, noLimit)
	checkDecode(t, "P5.2", d, addPart(0, "a", "1")+"\xbe"+addPart(62, "", "2")+"\xbe\xbf", field("a", "1"), field("a", "1"), field("a", "2"), field("a", "2"), field("a", "1"))
	checkDecode(t, "P5.2", d, addPart(63, "", "3333")+"\xbe", field("a", "3333"), field("a", "3333"))
	checkRows(t, "P5.2", d.Rows(), field("a", "3333"))
	checkDecode(t, "P5.2", d, addPart(62, "", long(38)), field("a", long(38)))
	checkRows(t, "P5.2", d.Rows())
	checkError(t, "P5.2", d, "\xbe", api.ErrIndex)
}

// TestSizes is of P5.2: changes of size ahead of all fields, two of them at most; the table's most is as they say.
func TestSizes(t *testing.T) {
	a, b, c := field("a", "1"), field("b", "1"), field("c", "1")
	three := addPart(0, "a", "1") + addPart(0, "b", "1") + addPart(0, "c", "1")
	for _, r := range []struct {
		block string
		left  []api.Field
	}{
		{sizePart(102), []api.Field{c, b, a}}, {sizePart(101), []api.Field{c, b}}, {sizePart(68), []api.Field{c, b}}, {sizePart(67), []api.Field{c}}, {sizePart(33), nil}, {sizePart(0), nil},
		{sizePart(0) + sizePart(firstMost), nil}, {sizePart(68) + sizePart(34), []api.Field{c}}, {sizePart(34) + sizePart(68), []api.Field{c}}, {sizePart(firstMost) + sizePart(firstMost), []api.Field{c, b, a}},
		{sizePart(68) + "\x82", []api.Field{c, b}}, {sizePart(34) + sizePart(68) + "\x82\xbe", []api.Field{c}},
	} {
		d := decoderOf(t, firstMost, noLimit, three, r.block)
		checkRows(t, "P5.2", d.Rows(), r.left...)
	}
	d := decoderOf(t, firstMost, noLimit, three, sizePart(34))
	checkDecode(t, "P5.2", d, addPart(0, "d", "1"), field("d", "1"))
	checkRows(t, "P5.2", d.Rows(), field("d", "1"))
	checkDecode(t, "P5.2", d, sizePart(68)+addPart(0, "e", "1"), field("e", "1"))
	checkRows(t, "P5.2", d.Rows(), field("e", "1"), field("d", "1"))
}

// TestSizesWrong is of P5.2: changes behind a field of any form, a third one, and those above the cap.
func TestSizesWrong(t *testing.T) {
	for _, block := range []string{
		"\x82\x20", "\xbe\x20", addPart(0, "a", "b") + "\x20", addPart(1, "", "") + "\x20", plainPart(0, "", "") + "\x20", neverPart(62, "", "b") + "\x20",
		"\x82" + sizePart(firstMost), "\x20\x82\x20", "\x20\x20\x82\x20", "\x20\x20\x20", "\x20\x20" + sizePart(firstMost), sizePart(firstMost) + sizePart(firstMost) + sizePart(firstMost) + "\x82",
		sizePart(firstMost + 1), "\x20" + sizePart(firstMost+1), sizePart(maxMost), sizePart(math.MaxInt32),
		// A wrong part behind them isn't told; of the number's bytes there may be more than it needs.
		"\x82\x20\x80", "\x20\x20\x20\x80", "\x20\x20\x20\x3f", "\x82\x3f\x00", "\x82\x3f\x80\x80\x00",
	} {
		checkError(t, "P5.2", decoderOf(t, firstMost, noLimit, addPart(0, "a", "b")), block, api.ErrUpdate)
	}
	d := decoderOf(t, firstMost, noLimit)
	for range 3 {
		checkDecode(t, "P5.2", d, "\x20"+sizePart(firstMost)) // each block may have two
	}
	for _, most := range []int{0, 1, 30, 31, 32, 100, firstMost - 1} {
		checkError(t, "P5.2", decoderOf(t, most, noLimit), sizePart(most+1), api.ErrUpdate)
		checkError(t, "P5.2", decoderOf(t, most, noLimit, sizePart(0)+sizePart(most)), sizePart(0)+sizePart(most+1), api.ErrUpdate)
	}
}

// wrongNumbers are bytes of numbers that are short, and too great, behind flags and a full prefix.
func wrongNumbers(flags byte, bits int) map[string]api.Errno {
	full := string([]byte{flags | byte(1<<bits-1)})
	above, _ := prefix.PutInt(flags, bits, 1<<31)
	return map[string]api.Errno{
		full: api.ErrShort, full + "\x80": api.ErrShort, full + "\xff\xff\xff\xff": api.ErrShort,
		string(above): api.ErrRange, full + "\xff\xff\xff\xff\xff": api.ErrRange, full + "\x80\x80\x80\x80\x80": api.ErrRange, full + "\x80\x80\x80\x80\x80\x00": api.ErrRange,
	}
}

// TestWrongNumbers is of P5.2: a part's number is asked first, of a change of size behind a field, too.
func TestWrongNumbers(t *testing.T) {
	for _, r := range []struct {
		flags byte
		bits  int
	}{{0x80, 7}, {0x40, 6}, {0x20, 5}, {0x10, 4}, {0x00, 4}} {
		for b, want := range wrongNumbers(r.flags, r.bits) {
			for _, ahead := range []string{"", "\x82", "\x20\x20", "\x20\x20\x82", addPart(0, "a", "b")} {
				checkError(t, "P5.2", decoderOf(t, firstMost, noLimit), ahead+b, want)
			}
		}
	}
	for _, block := range []string{number(0x80, 7, math.MaxInt32), number(0x40, 6, math.MaxInt32), number(0x10, 4, math.MaxInt32), number(0x00, 4, math.MaxInt32)} {
		checkError(t, "P5.2", decoderOf(t, firstMost, noLimit), block, api.ErrIndex)
	}
	// Numbers that aren't in their one form are as good.
	d := decoderOf(t, firstMost, noLimit, addPart(0, "a", strings.Repeat("b", 3)))
	for range 66 {
		checkDecode(t, "P5.2", d, addPart(0, "a", "c"), field("a", "c"))
	}
	checkDecode(t, "P5.2", d, "\xff\x80\x80\x80\x80\x00", field("a", "c"))
	checkDecode(t, "P5.2", d, "\xff\x81\x80\x00"+"\x0f\xf1\x80\x00\x01x", field("a", "bbb"), field("a", "x"))
}

// wrongTexts are texts that can't be read.
func wrongTexts() map[string]api.Errno {
	return map[string]api.Errno{
		"": api.ErrShort, "\x01": api.ErrShort, "\x03ab": api.ErrShort, "\x7f": api.ErrShort, "\xff\x80": api.ErrShort, "\x82\x18": api.ErrShort,
		"\x7f\xff\xff\xff\xff\xff": api.ErrRange, "\xff\x80\x80\x80\x80\x80": api.ErrRange,
		number(0, 7, maxText+1): api.ErrLong, text(long(maxText + 1)): api.ErrLong, number(0x80, 7, math.MaxInt32): api.ErrLong,
		coded(strings.Repeat("\x00", maxText-1) + "\x07"): api.ErrLong,
		coded("\x00"): api.ErrForm, coded("\xff"): api.ErrForm, coded("\x18\xc6"): api.ErrForm, coded("\xff\xff\xff\xff"): api.ErrForm,
	}
}

// TestWrongTexts is of P5.2: names and values that can't be read, in each form; the row first, then the name, then the value.
func TestWrongTexts(t *testing.T) {
	for _, flags := range []struct {
		flags byte
		bits  int
	}{{0x40, 6}, {0x00, 4}, {0x10, 4}} {
		byText, byRow, byNone := number(flags.flags, flags.bits, 0), number(flags.flags, flags.bits, 62), number(flags.flags, flags.bits, 63)
		for wrong, want := range wrongTexts() {
			for _, ahead := range []string{byText + "\x01n", byText + "\x00", byText + coded("\x07"), byText + text(long(maxText)), byRow} {
				checkError(t, "P5.2", decoderOf(t, firstMost, noLimit, addPart(0, "a", "b")), "\x82"+ahead+wrong, want)
			}
			checkError(t, "P5.2", decoderOf(t, firstMost, noLimit, addPart(0, "a", "b")), byText+wrong, want)
			checkError(t, "P5.2", decoderOf(t, firstMost, noLimit, addPart(0, "a", "b")), byNone+wrong, api.ErrIndex)
		}
		for name, want := range map[string]api.Errno{coded("\x00"): api.ErrForm, number(0, 7, maxText+1): api.ErrLong, "\x7f\xff\xff\xff\xff\xff": api.ErrRange} {
			for value := range wrongTexts() {
				checkError(t, "P5.2", decoderOf(t, firstMost, noLimit), byText+name+value, want)
			}
		}
	}
}

// TestLongTexts is of P5.2: texts of as many bytes as may be.
func TestLongTexts(t *testing.T) {
	d := decoderOf(t, maxMost, noLimit, sizePart(maxMost))
	a, b := field(long(maxText), long(maxText)), field(strings.Repeat("0", maxText), strings.Repeat("a", maxText))
	checkDecode(t, "P5.2", d, addPart(0, a.Name, a.Value), a)
	checkDecode(t, "P5.2", d, "\x40"+string(prefix.PutText(b.Name))+string(prefix.PutText(b.Value))+"\xbf", b, a)
	checkRows(t, "P5.2", d.Rows(), b, a)
}

// TestFirstError is of P5.2: the first part that has an error is told, whatever follows; ErrList only where there is none.
func TestFirstError(t *testing.T) {
	for block, want := range map[string]api.Errno{
		"\x80\x82\x20": api.ErrIndex, "\x82\x20\x80": api.ErrUpdate, "\x80\xff": api.ErrIndex, "\x00\x81\x00\x80": api.ErrForm,
		"\x82\x80": api.ErrIndex, "\x82\x40\x01a": api.ErrShort, "\x82\x82\x82\x20": api.ErrUpdate, "\x82\x82\xff\xff\xff\xff\xff\xff": api.ErrRange, "\x82\x00" + number(0, 7, maxText+1): api.ErrLong, "\x82\x00" + coded("\xff"): api.ErrForm,
	} {
		checkError(t, "P5.2", decoderOf(t, firstMost, noLimit), block, want)
		checkError(t, "P5.2", decoderOf(t, firstMost, 0), block, want)
		checkError(t, "P5.2", decoderOf(t, firstMost, 42), block, want)
	}
}

// TestListLimit is of P5.2: a limit of 0, of just the list's cost, and one below; fields of all forms cost alike, changes of size nothing.
func TestListLimit(t *testing.T) {
	for block, list := range map[string][]api.Field{
		"":                                nil,
		"\x20":                            nil,
		plainPart(0, "", ""):              {field("", "")},
		"\x82":                            {field(":method", "GET")},
		"\x20\x82\x84":                    {field(":method", "GET"), field(":path", "/")},
		addPart(0, "a", "b") + "\xbe":     {field("a", "b"), field("a", "b")},
		addPart(4, "", "/x"):              {field(":path", "/x")},
		neverPart(4, "", "/x") + "\x82":   {never(":path", "/x"), field(":method", "GET")},
		plainPart(0, "name", long(1000)):  {field("name", long(1000))},
		"\x00" + coded("\x1f") + "\x00":   {field("a", "")},
		"\xbe" + plainPart(62, "", "bcd"): {field("x", "y"), field("x", "bcd")},
	} {
		ready := func(limit int) *hpack.Decoder {
			d := decoderOf(t, firstMost, limit)
			d.Decode([]byte(addPart(0, "x", "y"))) // be it above the limit
			checkRows(t, "P5.2", d.Rows(), field("x", "y"))
			return d
		}
		cost := listCost(list)
		for _, limit := range []int{cost, cost + 1, cost + 1000, noLimit, math.MaxInt} {
			checkDecode(t, "P5.2", ready(limit), block, list...)
		}
		for limit := range cost {
			checkError(t, "P5.2", ready(limit), block, api.ErrList)
		}
	}
}

// TestBehindErrList is of P5.2: the table is as it is behind the block, and the decoder goes on.
func TestBehindErrList(t *testing.T) {
	d := decoderOf(t, firstMost, 68)
	checkDecode(t, "P5.2", d, addPart(0, "a", "1")+addPart(0, "b", "1"), field("a", "1"), field("b", "1"))
	checkError(t, "P5.2", d, addPart(0, "c", "1")+"\x82"+addPart(0, "d", "1"), api.ErrList)
	checkRows(t, "P5.2", d.Rows(), field("d", "1"), field("c", "1"), field("b", "1"), field("a", "1"))
	checkDecode(t, "P5.2", d, "\xbe\xc1", field("d", "1"), field("a", "1"))
	checkError(t, "P5.2", d, sizePart(68)+"\xbe\xbe\xbe", api.ErrList)
	checkRows(t, "P5.2", d.Rows(), field("d", "1"), field("c", "1"))
	checkDecode(t, "P5.2", d, addPart(0, "e", "1"), field("e", "1"))
	checkRows(t, "P5.2", d.Rows(), field("e", "1"), field("d", "1"))
	checkDecode(t, "P5.2", d, "")
	checkError(t, "P5.2", d, "\x82\x82\x82", api.ErrList)
	checkError(t, "P5.2", d, "\x82\x82\xff", api.ErrShort)
	checkError(t, "P5.2", d, "\x82", api.ErrState)
}

// TestGreatList is of P5.2: a short block that names a great row so often that its list is far above any limit.
func TestGreatList(t *testing.T) {
	d := decoderOf(t, maxMost, 65536, sizePart(maxMost)+addPart(0, long(maxText), long(maxText)))
	checkError(t, "P5.2", d, strings.Repeat("\xbe", 1<<20), api.ErrList)
	checkDecode(t, "P5.2", d, "\xbe", field(long(maxText), long(maxText)))
	if n := testing.AllocsPerRun(1, func() { d.Decode([]byte(strings.Repeat("\xbe", 1<<16))) }); n > 100 {
		t.Errorf("P5.2: %v pieces of memory", n)
	}
}

// TestBehindErrors is of P5.2: behind any error but ErrList a decoder answers ErrState; its rows are those ahead of the block.
func TestBehindErrors(t *testing.T) {
	a, b, c := field("a", "1"), field("b", "1"), field("c", "1")
	three := addPart(0, "a", "1") + addPart(0, "b", "1") + addPart(0, "c", "1")
	for block, want := range map[string]api.Errno{
		"\x80": api.ErrIndex, "\xff": api.ErrShort, "\xff\xff\xff\xff\xff\xff": api.ErrRange, "\x20\x20\x20": api.ErrUpdate, "\x00" + coded("\x00"): api.ErrForm, "\x00" + number(0, 7, maxText+1): api.ErrLong,
		// By then the table has changed.
		"\x20\x80": api.ErrIndex, "\x20" + sizePart(firstMost) + "\xbe": api.ErrIndex, sizePart(68) + "\xc0": api.ErrIndex, addPart(0, "d", "1") + "\x80": api.ErrIndex, sizePart(68) + addPart(0, "d", "1") + "\x40": api.ErrShort,
		addPart(0, "d", long(4000)) + "\x80": api.ErrIndex, addPart(0, "d", long(4096)) + "\x80": api.ErrIndex, strings.Repeat(addPart(0, "d", "1"), 500) + "\x20": api.ErrUpdate, strings.Repeat(addPart(0, "", ""), 127) + "\x80": api.ErrIndex,
		addPart(0, "", long(firstMost-3*34-perField)) + "\x80": api.ErrIndex, addPart(0, "", long(firstMost-3*34-perField+1)) + "\x80": api.ErrIndex, addPart(0, "", long(firstMost-34-perField+1)) + "\x80": api.ErrIndex,
	} {
		d := decoderOf(t, firstMost, noLimit, three)
		checkError(t, "P5.2", d, block, want)
		for _, next := range []string{"", "\x82", "\x20", "\x80", block, addPart(0, "e", "1")} {
			checkError(t, "P5.2", d, next, api.ErrState)
			checkRows(t, "P5.2", d.Rows(), c, b, a)
		}
		clear(d.Rows())
		checkRows(t, "P5.5", d.Rows(), c, b, a)
	}
}

// TestEmptyBlocks is of P5.2: a block without parts, of no bytes and of none at all.
func TestEmptyBlocks(t *testing.T) {
	for _, list := range []int{0, 1, noLimit} {
		d := decoderOf(t, firstMost, list)
		for range 3 {
			checkDecode(t, "P5.2", d, "")
			if got, e := d.Decode(nil); len(got) != 0 || e != api.OK {
				t.Errorf("P5.2: Decode(nil) = %s, %d", say(got), e)
			}
		}
		checkRows(t, "P5.5", d.Rows())
	}
}

// TestDecoderRows is of P5.5: the youngest first, Never and what doesn't come in not among them; what is answered is new.
func TestDecoderRows(t *testing.T) {
	d := decoderOf(t, firstMost, noLimit, addPart(0, "a", "1")+plainPart(0, "b", "1")+neverPart(0, "c", "1")+"\x82"+addPart(0, "d", "1")+addPart(0, "a", "1"))
	for range 2 {
		got := d.Rows()
		checkRows(t, "P5.5", got, field("a", "1"), field("d", "1"), field("a", "1"))
		clear(got[:cap(got)])
	}
	list, _ := d.Decode([]byte("\xbe\xbf"))
	clear(list[:cap(list)])
	checkRows(t, "P5.5", d.Rows(), field("a", "1"), field("d", "1"), field("a", "1"))
	checkDecode(t, "P5.2", d, "\xbe\xbf", field("a", "1"), field("d", "1"))
}

// TestDecodeLeavesBlock is of P5.2: a block isn't changed, its spare room neither, and isn't kept.
func TestDecodeLeavesBlock(t *testing.T) {
	all := addPart(0, "name", "value") + "\x82" + plainPart(0, "other", "text") + "spare"
	d := decoderOf(t, firstMost, noLimit)
	b := []byte(all)
	list, e := d.Decode(b[:len(b)-5])
	if string(b) != all {
		t.Errorf("P5.2: Decode changed its block: %x", b)
	}
	clear(b)
	if !alike(list, []api.Field{field("name", "value"), field(":method", "GET"), field("other", "text")}) || e != api.OK {
		t.Errorf("P5.2: Decode = %s, %d", say(list), e)
	}
	checkRows(t, "P5.5", d.Rows(), field("name", "value"))
	b = bytes.Repeat([]byte("\x82"), 3)
	checkError(t, "P5.2", d, string(b)+"\x80", api.ErrIndex)
}

// TestTwoDecoders is of P5.1: what one decoder reads another one knows nothing of.
func TestTwoDecoders(t *testing.T) {
	x, y := decoderOf(t, firstMost, noLimit, addPart(0, "a", "1")), decoderOf(t, firstMost, noLimit, addPart(0, "b", "1"))
	checkDecode(t, "P5.1", x, "\xbe", field("a", "1"))
	checkError(t, "P5.1", x, "\x80", api.ErrIndex)
	checkDecode(t, "P5.1", y, "\xbe", field("b", "1"))
}

// TestNoDecoder is of P5.6.
func TestNoDecoder(t *testing.T) {
	var d *hpack.Decoder
	for _, block := range []string{"", "\x82", "\x80", "\x20"} {
		checkError(t, "P5.6", d, block, api.ErrState)
		checkRows(t, "P5.6", d.Rows())
	}
}
