package hpack_test

import (
	"math"
	"slices"
	"strings"
	"testing"
	"unsafe"

	"drawbridge/api"
	"drawbridge/hpack"
	"drawbridge/prefix"
)

// fields: a list of fields.
func fields(list ...api.Field) []api.Field { return list }

// limit tells an encoder the other end's limits.
func limit(t *testing.T, x *hpack.Encoder, list ...int) {
	t.Helper()
	for _, n := range list {
		if e := x.Limit(n); e != api.OK {
			t.Errorf("P5.3: Limit(%d): %d", n, e)
		}
	}
}

// checkMost asks for an encoder's most: a field whose cost is just that comes into the table, one that costs one more doesn't.
func checkMost(t *testing.T, promise string, x *hpack.Encoder, most int) {
	t.Helper()
	x.Encode(nil)
	if most >= perField {
		just := field("", long(most-perField))
		checkEncode(t, promise, x, fields(just), addPart(0, "", just.Value))
		checkRows(t, promise, x.Rows(), just)
		x.Encode(fields(field("", long(most-perField)+"&")))
		checkRows(t, promise, x.Rows(), just)
		return
	}
	checkEncode(t, promise, x, fields(field("", "")), plainPart(0, "", ""))
	checkRows(t, promise, x.Rows())
}

// TestNewEncoder is of P5.3: the most is the lesser one of the own limit and FirstTable.
func TestNewEncoder(t *testing.T) {
	for _, own := range []int{0, 1, 31, 32, 33, 100, firstMost - 1, firstMost, firstMost + 1, maxMost - 1, maxMost} {
		x := encoderOf(t, own)
		checkRows(t, "P5.5", x.Rows())
		checkMost(t, "P5.3", x, min(own, firstMost))
	}
	for _, own := range []int{-1, -32, math.MinInt, maxMost + 1, 1 << 32, math.MaxInt} {
		if x, e := hpack.NewEncoder(own); x != nil || e != api.ErrArg {
			t.Errorf("P5.3: NewEncoder(%d) = %v, %d", own, x, e)
		}
	}
}

// TestLimit is of P5.3: the most is the lesser one of the own limit and the other end's, at once.
func TestLimit(t *testing.T) {
	for _, own := range []int{0, 31, 32, 100, firstMost, 5000, maxMost} {
		for _, n := range []int{0, 1, 31, 32, 33, 99, 100, 101, firstMost - 1, firstMost, firstMost + 1, maxMost - 1, maxMost, maxMost + 1, math.MaxInt32, math.MaxUint32, math.MaxInt} {
			x := encoderOf(t, own)
			limit(t, x, n)
			checkMost(t, "P5.3", x, min(own, n))
			limit(t, x, 0, n)
			checkMost(t, "P5.3", x, min(own, n))
		}
	}
}

// TestLimitWrong is of P5.3: a limit below 0 changes nothing.
func TestLimitWrong(t *testing.T) {
	x := encoderOf(t, 100, fields(field("a", "b"), field("c", "d")))
	for _, n := range []int{-1, -2, math.MinInt32, math.MinInt} {
		if e := x.Limit(n); e != api.ErrArg {
			t.Errorf("P5.3: Limit(%d): %d", n, e)
		}
	}
	checkRows(t, "P5.3", x.Rows(), field("c", "d"), field("a", "b"))
	checkEncode(t, "P5.3", x, fields(field("a", "b")), "\xbf")
}

// TestLimitDropsRows is of P5.3 and P5.5: when the limit sinks the oldest rows go, and don't come back.
func TestLimitDropsRows(t *testing.T) {
	a, b, c := field("a", "1"), field("b", "1"), field("c", "1")
	for n, left := range map[int][]api.Field{102: {c, b, a}, 101: {c, b}, 68: {c, b}, 67: {c}, 34: {c}, 33: nil, 0: nil} {
		x := encoderOf(t, firstMost, fields(a, b, c))
		limit(t, x, n)
		checkRows(t, "P5.5", x.Rows(), left...)
		limit(t, x, firstMost)
		checkRows(t, "P5.5", x.Rows(), left...)
		for i, f := range left {
			checkEncode(t, "P5.4", x, fields(f), map[bool]string{true: sizePart(n) + sizePart(firstMost)}[i == 0]+rowPart(fixed+1+i))
		}
		checkRows(t, "P5.5", x.Rows(), left...)
	}
}

// TestTold is of P5.4: the changes of size, block by block.
func TestTold(t *testing.T) {
	at := func(list ...int) (s string) {
		for _, n := range list {
			s += sizePart(n)
		}
		return s
	}
	for _, r := range []struct {
		own  int
		told []string // of the block ahead of all limits, of the one behind the first row of limits, and so on
		rows [][]int
	}{
		{firstMost, []string{"", ""}, [][]int{{}}}, {maxMost, []string{"", ""}, [][]int{{}}}, {firstMost + 1, []string{""}, nil},
		{0, []string{"\x20", ""}, [][]int{{}}}, {10, []string{"\x2a", ""}, [][]int{{}}}, {100, []string{"\x3f\x45", ""}, [][]int{{}}}, {firstMost - 1, []string{"\x3f\xe0\x1f", ""}, [][]int{{}}},
		// Once told, it isn't again; what is above the own limit changes nothing.
		{100, []string{at(100), "", "", ""}, [][]int{{100}, {firstMost, 101}, {math.MaxInt}}},
		{maxMost, []string{"", "\x3f\xe1\xff\x03", ""}, [][]int{{maxMost}, {maxMost, maxMost + 1}}},
		// It sinks, and rises.
		{firstMost, []string{"", "\x20\x3f\x45", ""}, [][]int{{0, 100}, {}}},
		{firstMost, []string{"", at(0), at(100), at(firstMost)}, [][]int{{0}, {100}, {firstMost}}},
		{firstMost, []string{"", at(0), at(100), ""}, [][]int{{100, 0}, {0, 100}, {100}}},
		{firstMost, []string{"", at(50, 100), at(40, 100), ""}, [][]int{{200, 50, 70, 100}, {99, 60, 40, 50, 100}, {100, 200, 300, 100}}},
		{firstMost, []string{"", at(0, firstMost), ""}, [][]int{{0, firstMost}, {}}},
		{firstMost, []string{"", at(firstMost-1, firstMost), at(firstMost - 1)}, [][]int{{firstMost - 1, firstMost}, {firstMost, firstMost - 1}}},
		// The least one isn't below what is told.
		{maxMost, []string{"", at(5000), at(5500), ""}, [][]int{{6000, 5000}, {6000, 5500}, {6000, 5600, 5500}}},
		{maxMost, []string{"", at(5000), at(4500, 4800), at(4799, 6000)}, [][]int{{5000}, {4500, 4800}, {4799, 6000}}},
		{maxMost, []string{"", at(5000), at(firstMost, 6000), at(firstMost)}, [][]int{{5000}, {firstMost, 6000}, {5000, firstMost}}},
		{maxMost, []string{"", at(6000), at(7000), at(5000)}, [][]int{{firstMost, 6000}, {6000, 7000}, {6999, 5000}}},
	} {
		x := encoderOf(t, r.own)
		checkEncode(t, "P5.4", x, nil, r.told[0])
		for i, limits := range r.rows {
			limit(t, x, limits...)
			checkEncode(t, "P5.4", x, fields(field(":method", "GET")), r.told[i+1]+"\x82")
		}
	}
}

// TestToldFirst is of P5.4: limits that come ahead of the first block.
func TestToldFirst(t *testing.T) {
	for _, r := range []struct {
		own    int
		limits []int
		want   string
	}{
		{firstMost, []int{0, 100}, "\x20\x3f\x45"}, {firstMost, []int{0}, "\x20"}, {100, []int{0, 100}, sizePart(0) + sizePart(100)}, {100, []int{200, 300}, sizePart(100)},
		{maxMost, []int{5000}, sizePart(5000)}, {maxMost, []int{5000, 4500, 6000}, sizePart(6000)}, {maxMost, []int{5000, 4000, 6000}, sizePart(4000) + sizePart(6000)}, {maxMost, []int{5000, firstMost}, ""}, {5000, []int{maxMost}, sizePart(5000)},
	} {
		x := encoderOf(t, r.own)
		limit(t, x, r.limits...)
		checkEncode(t, "P5.4", x, nil, r.want)
		checkEncode(t, "P5.4", x, nil, "")
	}
}

// TestToldRefused is of P5.4: a limit that may not be is none of those that the most was.
func TestToldRefused(t *testing.T) {
	x := encoderOf(t, firstMost)
	x.Limit(-1)
	x.Limit(math.MinInt)
	checkEncode(t, "P5.4", x, nil, "")
}

// TestEncodeChapter is of P5.4: the chapter's examples.
func TestEncodeChapter(t *testing.T) {
	x := encoderOf(t, firstMost)
	checkEncode(t, "P5.4", x, fields(field(":method", "GET")), "\x82")
	checkEncode(t, "P5.4", x, fields(field("a", "b")), "\x40\x01\x61\x01\x62")
	checkEncode(t, "P5.4", x, fields(field("a", "b")), "\xbe")
	limit(t, x, 0, 100)
	checkEncode(t, "P5.4", x, nil, "\x20\x3f\x45")
}

// TestEncodeRequests is of P5.4: the blocks of RFC 7541, C.4.
func TestEncodeRequests(t *testing.T) {
	x := encoderOf(t, firstMost)
	get, host, cache, custom := field(":method", "GET"), field(":authority", "www.example.com"), field("cache-control", "no-cache"), field("custom-key", "custom-value")
	checkEncode(t, "P5.4", x, fields(get, field(":scheme", "http"), field(":path", "/"), host), sixteens("82 86 84 41 8c f1 e3 c2 e5 f2 3a 6b a0 ab 90 f4 ff"))
	checkEncode(t, "P5.4", x, fields(get, field(":scheme", "http"), field(":path", "/"), host, cache), sixteens("82 86 84 be 58 86 a8 eb 10 64 9c bf"))
	checkEncode(t, "P5.4", x, fields(get, field(":scheme", "https"), field(":path", "/index.html"), host, custom), sixteens("82 87 85 bf 40 88 25 a8 49 e9 5b a9 7d 7f 89 25 a8 49 e9 5b b8 e8 b4 bf"))
	checkRows(t, "P5.5", x.Rows(), custom, cache, host)
}

// TestFieldForms is of P5.4: each form, its name a text, one of a row that never changes, one of a row that came.
func TestFieldForms(t *testing.T) {
	value := long(60)
	for _, r := range []struct {
		own  int
		f    api.Field
		want string
	}{
		{firstMost, field("n", "v"), "\x40\x01n\x01v"}, {firstMost, field("", ""), "\x40\x00\x00"}, {firstMost, field("Name: \n", "\x00\r"), "\x40\x07Name: \n\x02\x00\r"},
		{firstMost, field(":path", "/x"), "\x44\x02/x"}, {firstMost, field(":method", "PUT"), "\x42\x03PUT"}, {firstMost, field(":status", "999"), "\x48\x03999"}, {firstMost, field("www-authenticate", "v"), "\x7d\x01v"}, {firstMost, field("accept-charset", "v"), "\x4f\x01v"}, {firstMost, field("accept-encoding", ""), "\x50\x00"},
		{firstMost, field("c", "x"), "\x7e\x01x"}, {firstMost, field("a", "x"), "\x7f\x00\x01x"}, {firstMost, field("a", "c"), "\x7f\x00\x01c"},
		{80, field("n", value), "\x00\x01n\x3c" + value}, {80, field(":path", value), "\x04\x3c" + value}, {80, field(":status", value), "\x08\x3c" + value}, {80, field("accept-language", value), "\x0f\x02\x3c" + value}, {80, field("accept-charset", value), "\x0f\x00\x3c" + value},
		{80, field("c", value), "\x0f\x2f\x3c" + value}, {80, field("a", value), "\x0f\x30\x3c" + value},
		{firstMost, never("n", "v"), "\x10\x01n\x01v"}, {firstMost, never("", ""), "\x10\x00\x00"}, {firstMost, never(":path", "/x"), "\x14\x02/x"}, {firstMost, never(":path", "/"), "\x14\x01/"}, {firstMost, never(":path", "/index.html"), "\x15" + string(prefix.PutText("/index.html"))}, {firstMost, never(":method", "PUT"), "\x12\x03PUT"}, {firstMost, never("accept-language", "v"), "\x1f\x02\x01v"},
		{firstMost, never("c", "d"), "\x1f\x2f\x01d"}, {firstMost, never("a", "b"), "\x1f\x30\x01b"}, {firstMost, never("a", "x"), "\x1f\x30\x01x"}, {80, never("a", value), "\x1f\x30\x3c" + value}, {80, never("n", value), "\x10\x01n\x3c" + value},
	} {
		x := encoderOf(t, r.own, fields(field("a", "b"), field("c", "d")))
		checkEncode(t, "P5.4", x, fields(r.f), r.want)
		came := fields(field("c", "d"), field("a", "b"))
		if r.want[0] >= 0x40 {
			came = append(fields(r.f), came...)
		}
		checkRows(t, "P5.5", x.Rows(), came...)
	}
}

// TestFieldRows is of P5.4: a field with a row's name and value is that row's number, whether it has room in the table or not.
func TestFieldRows(t *testing.T) {
	for _, own := range []int{0, 10, 100, firstMost} {
		x := encoderOf(t, own, nil)
		for n := 1; n <= fixed; n++ {
			f, _ := (&rows{}).at(n)
			want := rowPart(n)
			if f.Name == "authorization" || f.Name == "set-cookie" {
				want = neverPart(n, "", "")
			}
			checkEncode(t, "P5.4", x, fields(f), want)
		}
		checkRows(t, "P5.4", x.Rows())
	}
	x := encoderOf(t, maxMost)
	limit(t, x, maxMost)
	x.Encode(nil)
	for i := range 300 {
		x.Encode(fields(field("a", strings.Repeat("x", i))))
	}
	for i := range 300 {
		checkEncode(t, "P5.4", x, fields(field("a", strings.Repeat("x", i))), rowPart(fixed+300-i))
	}
}

// TestSecrets is of P5.4: fields of two names never come into the table, whatever their values; others with names that are much the same do.
func TestSecrets(t *testing.T) {
	for name, first := range map[string]string{"authorization": "\x1f\x08", "set-cookie": "\x1f\x28"} {
		for _, value := range []string{"", "x", long(100)} {
			x := encoderOf(t, firstMost)
			for range 2 {
				checkEncode(t, "P5.4", x, fields(field(name, value)), first+text(value))
				checkEncode(t, "P5.4", x, fields(never(name, value)), first+text(value))
			}
			checkRows(t, "P5.4", x.Rows())
		}
		x := encoderOf(t, 0, nil)
		checkEncode(t, "P5.4", x, fields(field(name, "x")), first+"\x01x")
	}
	for _, name := range []string{"Authorization", "Set-Cookie", "authorizatio", "authorization2", "set-cookie2", "cookie", "proxy-authorization", "set-cooki", ":authority", ""} {
		x := encoderOf(t, firstMost)
		x.Encode(fields(field(name, "x")))
		checkRows(t, "P5.4", x.Rows(), field(name, "x"))
		checkEncode(t, "P5.4", x, fields(field(name, "x")), "\xbe")
		checkEncode(t, "P5.4", x, fields(never(name, "x")), "\x1f\x2f\x01x")
	}
}

// TestJustTheMost is of P5.4: a field whose cost is just the most comes into the table; one that costs one more doesn't, and leaves the rows.
func TestJustTheMost(t *testing.T) {
	for _, most := range []int{37, 50, 100, 1000, firstMost} {
		a := field("a", "b")
		x := encoderOf(t, most, fields(a))
		above := field("n", long(most-perField))
		checkEncode(t, "P5.4", x, fields(above), plainPart(0, "n", above.Value))
		checkEncode(t, "P5.4", x, fields(field(":path", long(most-perField-4))), plainPart(4, "", long(most-perField-4)))
		checkRows(t, "P5.4", x.Rows(), a)
		checkEncode(t, "P5.4", x, fields(a), "\xbe")
		just := field("n", long(most-perField-1))
		checkEncode(t, "P5.4", x, fields(just), addPart(0, "n", just.Value))
		checkRows(t, "P5.4", x.Rows(), just)
		checkEncode(t, "P5.4", x, fields(just), "\xbe")
		checkEncode(t, "P5.4", x, fields(above), plainPart(62, "", above.Value))
	}
	x := encoderOf(t, firstMost)
	limit(t, x, 100)
	x.Encode(nil)
	checkEncode(t, "P5.4", x, fields(field("a", long(68))), plainPart(0, "a", long(68)))
	limit(t, x, 101)
	checkEncode(t, "P5.4", x, fields(field("a", long(68))), sizePart(101)+addPart(0, "a", long(68)))
}

// TestEncodeOrder is of P5.4: fields in their order, those that come in known to the ones behind them.
func TestEncodeOrder(t *testing.T) {
	x := encoderOf(t, 70)
	a, b, c := field("a", "1"), field("b", "1"), field("c", "1")
	checkEncode(t, "P5.4", x, fields(a, a, never("a", "1"), b, a, c, b, a), sizePart(70)+addPart(0, "a", "1")+"\xbe"+neverPart(62, "", "1")+addPart(0, "b", "1")+"\xbf"+addPart(0, "c", "1")+"\xbf"+addPart(0, "a", "1"))
	checkRows(t, "P5.5", x.Rows(), a, c)
}

// TestLongFields is of P5.4: texts that are too long to be taken are written as others are.
func TestLongFields(t *testing.T) {
	x := encoderOf(t, maxMost)
	limit(t, x, maxMost)
	f := field(long(maxText+1), strings.Repeat("a", 40000))
	checkEncode(t, "P5.4", x, fields(f), sizePart(maxMost)+"\x40"+text(f.Name)+string(prefix.PutText(f.Value)))
	checkEncode(t, "P5.4", x, fields(f), "\xbe")
	g := field("g", long(100000))
	checkEncode(t, "P5.4", x, fields(g, f), plainPart(0, "g", g.Value)+"\xbe")
}

// TestEncodeLeavesList is of P5.4: a list isn't changed, nor kept; a block is new memory.
func TestEncodeLeavesList(t *testing.T) {
	b := []byte("namevalue")
	list := fields(field(unsafe.String(&b[0], 4), unsafe.String(&b[4], 5)), never("n", "v"), field(":path", "/"))
	x := encoderOf(t, firstMost)
	copied := slices.Clone(list)
	first := x.Encode(list)
	if !alike(list, copied) {
		t.Errorf("P5.4: Encode changed its list: %s", say(list))
	}
	clear(b)
	clear(list)
	checkRows(t, "P5.5", x.Rows(), field("name", "value"))
	second := x.Encode(fields(field("name", "value")))
	clear(first[:cap(first)])
	if string(second) != "\xbe" {
		t.Errorf("P5.4: two blocks share memory: %x", second)
	}
	checkEncode(t, "P5.4", x, fields(field("name", "value")), "\xbe")
}

// TestEncoderRows is of P5.5: the youngest first, Never not among them; what is answered is new.
func TestEncoderRows(t *testing.T) {
	x := encoderOf(t, firstMost, fields(field("a", "1"), never("b", "1"), field(":method", "GET"), field("set-cookie", "1"), field("c", "1")), fields(field("d", "1"), field("a", "1")))
	for range 2 {
		got := x.Rows()
		checkRows(t, "P5.5", got, field("d", "1"), field("c", "1"), field("a", "1"))
		clear(got[:cap(got)])
	}
}

// TestTwoEncoders is of P5.3: what one encoder writes another one knows nothing of.
func TestTwoEncoders(t *testing.T) {
	x, y := encoderOf(t, firstMost, fields(field("a", "1"))), encoderOf(t, firstMost, fields(field("b", "1")))
	limit(t, x, 0)
	checkEncode(t, "P5.3", y, fields(field("b", "1")), "\xbe")
	checkEncode(t, "P5.3", x, fields(field("b", "1")), "\x20"+plainPart(0, "b", "1"))
}

// TestNoEncoder is of P5.6.
func TestNoEncoder(t *testing.T) {
	var x *hpack.Encoder
	for _, n := range []int{-1, 0, 1, firstMost, math.MaxInt} {
		if e := x.Limit(n); e != api.ErrArg {
			t.Errorf("P5.6: Limit(%d): %d", n, e)
		}
		checkEncode(t, "P5.6", x, nil, "")
		checkEncode(t, "P5.6", x, fields(field(":method", "GET")), "")
		checkRows(t, "P5.6", x.Rows())
	}
}
