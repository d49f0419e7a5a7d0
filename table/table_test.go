package table_test

import (
	"math"
	"strings"
	"testing"
	"unsafe"

	"drawbridge/api"
	"drawbridge/table"
)

// tableOf makes a table that rows were added to, one by one.
func tableOf(t *testing.T, most int, list ...api.Field) *table.Table {
	t.Helper()
	x, e := table.New(most)
	if x == nil || e != api.OK {
		t.Fatalf("P4.1: New(%d): %d", most, e)
	}
	for _, f := range list {
		x.Add(f)
	}
	return x
}

// checkSize holds what a table tells of its size against what is asked for.
func checkSize(t *testing.T, promise string, x *table.Table, most, size, length int) {
	t.Helper()
	if x.Most() != most || x.Size() != size || x.Len() != length {
		t.Errorf("%s: most %d, size %d, %d rows; not %d, %d, %d", promise, x.Most(), x.Size(), x.Len(), most, size, length)
	}
}

// checkRows holds the rows that came and are there, the youngest first, against those that are asked for.
func checkRows(t *testing.T, promise string, x *table.Table, list ...api.Field) {
	t.Helper()
	size := 0
	for i, want := range list {
		size += costOf(want)
		if got, e := x.At(fixed + 1 + i); got != want || e != api.OK {
			t.Errorf("%s: At(%d) = %s, %d; not %s", promise, fixed+1+i, say(got), e, say(want))
		}
	}
	checkNoRow(t, promise, x, fixed+1+len(list))
	checkSize(t, promise, x, x.Most(), size, len(list))
}

// checkFixed asks for the rows that never change.
func checkFixed(t *testing.T, promise string, x *table.Table) {
	t.Helper()
	for i, want := range fixedFields {
		if got, e := x.At(i + 1); got != want || e != api.OK {
			t.Errorf("%s: At(%d) = %s, %d; not %s", promise, i+1, say(got), e, say(want))
		}
	}
}

// checkNoRow asks for a row that isn't there.
func checkNoRow(t *testing.T, promise string, x *table.Table, n int) {
	t.Helper()
	if got, e := x.At(n); got != field("", "") || e != api.ErrIndex {
		t.Errorf("%s: At(%d) = %s, %d", promise, n, say(got), e)
	}
}

// checkFind holds a row's number against the one that is asked for.
func checkFind(t *testing.T, promise string, x *table.Table, f api.Field, want int, same bool) {
	t.Helper()
	if n, ok := x.Find(f); n != want || ok != same {
		t.Errorf("%s: Find(%s) = %d, %v; not %d, %v", promise, say(f), n, ok, want, same)
	}
}

// wrongMosts are such as no table may have.
func wrongMosts() []int {
	return []int{-1, -2, -34, -maxMost, maxMost + 1, 2 * maxMost, 1 << 32, 1 << 62, math.MinInt, math.MaxInt}
}

// TestNew is of P4.1: a table has its most, and no rows that came.
func TestNew(t *testing.T) {
	for _, most := range []int{0, 1, 31, 32, 33, 34, 100, 4096, maxMost - 1, maxMost} {
		x := tableOf(t, most)
		checkSize(t, "P4.1", x, most, 0, 0)
		checkNoRow(t, "P4.1", x, fixed+1)
		checkFind(t, "P4.1", x, field("a", "b"), 0, false)
	}
}

// TestNewWrong is of P4.1: no table with a most that may not be.
func TestNewWrong(t *testing.T) {
	for _, most := range wrongMosts() {
		if x, e := table.New(most); x != nil || e != api.ErrArg {
			t.Errorf("P4.1: New(%d) = %v, %d", most, x, e)
		}
	}
}

// TestSizes is of P4.1: a row's size is its bytes', and 32; the rows that never change play no part, nor does Never.
func TestSizes(t *testing.T) {
	checkSize(t, "P4.1", tableOf(t, 4096, field("", "")), 4096, 32, 1)
	checkSize(t, "P4.1", tableOf(t, 4096, field("a", "")), 4096, 33, 1)
	checkSize(t, "P4.1", tableOf(t, 4096, field("", "a")), 4096, 33, 1)
	checkSize(t, "P4.1", tableOf(t, 4096, field("\u00e4", "\u20ac")), 4096, 37, 1)
	checkSize(t, "P4.1", tableOf(t, 4096, never("custom-key", "custom-value")), 4096, 54, 1)
	checkSize(t, "P4.1", tableOf(t, 4096, field(":path", "/"), field(":path", "/"), field("a", "b")), 4096, 38+38+34, 3)
}

// TestTwoTables is of P4.1: what one table is given another one knows nothing of.
func TestTwoTables(t *testing.T) {
	x, y := tableOf(t, 100), tableOf(t, 200)
	x.Add(field("a", "b"))
	y.Add(field("c", "d"))
	x.Resize(50)
	checkRows(t, "P4.1", x, field("a", "b"))
	checkRows(t, "P4.1", y, field("c", "d"))
	checkFind(t, "P4.1", x, field("c", "d"), 0, false)
	checkSize(t, "P4.1", y, 200, 34, 1)
}

// TestResize is of P4.2: the oldest rows go, as many as must and no more; they don't come back.
func TestResize(t *testing.T) {
	a, b, c := field("a", "1"), field("b", "22"), field("c", "333") // 34, 35, 36
	for _, r := range []struct {
		most int
		left []api.Field
	}{
		{maxMost, []api.Field{c, b, a}}, {106, []api.Field{c, b, a}}, {105, []api.Field{c, b, a}},
		{104, []api.Field{c, b}}, {72, []api.Field{c, b}}, {71, []api.Field{c, b}},
		{70, []api.Field{c}}, {37, []api.Field{c}}, {36, []api.Field{c}},
		{35, nil}, {34, nil}, {1, nil}, {0, nil},
	} {
		x := tableOf(t, 105, a, b, c)
		if e := x.Resize(r.most); e != api.OK || x.Most() != r.most {
			t.Errorf("P4.2: Resize(%d): %d, most %d", r.most, e, x.Most())
		}
		checkRows(t, "P4.2", x, r.left...)
		if e := x.Resize(maxMost); e != api.OK || x.Most() != maxMost {
			t.Errorf("P4.2: Resize(%d): %d, most %d", maxMost, e, x.Most())
		}
		checkRows(t, "P4.2", x, r.left...)
	}
}

// TestResizeFinds is of P4.2: rows that went aren't found any more; those that are left are, and have room for others.
func TestResizeFinds(t *testing.T) {
	x := tableOf(t, 1000, field("a", "1"), field("b", "1"), field("c", "1"))
	x.Resize(68)
	checkFind(t, "P4.2", x, field("a", "1"), 0, false)
	checkFind(t, "P4.2", x, field("b", "1"), fixed+2, true)
	x.Resize(102)
	x.Add(field("d", "1"))
	checkRows(t, "P4.2", x, field("d", "1"), field("c", "1"), field("b", "1"))
	x.Resize(0)
	x.Add(field("", ""))
	checkRows(t, "P4.2", x)
	x.Resize(32)
	x.Add(field("", ""))
	checkRows(t, "P4.2", x, field("", ""))
}

// TestResizeWrong is of P4.2: a most that may not be changes nothing.
func TestResizeWrong(t *testing.T) {
	x := tableOf(t, 100, field("a", "b"), field("c", "d"))
	for _, most := range wrongMosts() {
		if e := x.Resize(most); e != api.ErrArg {
			t.Errorf("P4.2: Resize(%d): %d", most, e)
		}
		checkRows(t, "P4.2", x, field("c", "d"), field("a", "b"))
		checkSize(t, "P4.2", x, 100, 68, 2)
	}
	x.Add(field("e", "f"))
	checkRows(t, "P4.2", x, field("e", "f"), field("c", "d"))
}

// TestAdd is of P4.3: the youngest row is the first; the oldest rows go, as many as must and no more.
func TestAdd(t *testing.T) {
	a, b, c := field("a", "1"), field("b", "22"), field("c", "333") // 34, 35, 36: 105
	long := func(cost int) api.Field { return field("l", strings.Repeat("o", cost-perRow-1)) }
	for _, r := range []struct {
		most, cost int
		left       []api.Field
	}{
		{139, 34, []api.Field{c, b, a}}, {138, 34, []api.Field{c, b}}, {105, 34, []api.Field{c, b}},
		{105, 35, []api.Field{c}}, {105, 69, []api.Field{c}}, {105, 70, nil}, {105, 104, nil}, {105, 105, nil},
		{maxMost, 65431, []api.Field{c, b, a}}, {maxMost, 65432, []api.Field{c, b}}, {maxMost, maxMost, nil},
	} {
		x := tableOf(t, r.most, a, b, c)
		x.Add(long(r.cost))
		checkRows(t, "P4.3", x, append([]api.Field{long(r.cost)}, r.left...)...)
	}
}

// TestAddTooGreat is of P4.3: a row that is above the most alone takes all others along, and isn't there; later ones come again.
func TestAddTooGreat(t *testing.T) {
	for _, r := range []struct {
		most int
		f    api.Field
	}{
		{100, field(strings.Repeat("a", 69), "")}, {100, field("", strings.Repeat("a", 69))}, {100, field("a", strings.Repeat("b", 1<<20))},
		{100, field(strings.Repeat("a", 40), strings.Repeat("b", 29))}, {maxMost, field("", strings.Repeat("a", maxMost-perRow+1))},
	} {
		x := tableOf(t, r.most, field("a", "b"), field("c", "d"), r.f)
		checkRows(t, "P4.3", x)
		checkFind(t, "P4.3", x, r.f, 0, false)
		checkFind(t, "P4.3", x, field("a", "b"), 0, false)
		checkFind(t, "P4.3", x, field("c", "d"), 0, false)
		x.Add(field("e", "f"))
		checkRows(t, "P4.3", x, field("e", "f"))
		checkSize(t, "P4.3", x, r.most, 34, 1)
	}
}

// TestAddJust is of P4.3: a row whose cost is just the most has room, one that costs one more doesn't.
func TestAddJust(t *testing.T) {
	for _, most := range []int{32, 33, 34, 100, 4096, maxMost} {
		just := field("", strings.Repeat("v", most-perRow))
		checkRows(t, "P4.3", tableOf(t, most, just), just)
		checkRows(t, "P4.3", tableOf(t, most, just, just), just)
		checkRows(t, "P4.3", tableOf(t, most, field(just.Value, "")), field(just.Value, ""))
		checkRows(t, "P4.3", tableOf(t, most, field("n", just.Value)))
		checkRows(t, "P4.3", tableOf(t, most, just, field("n", just.Value)))
	}
	for _, most := range []int{0, 1, 31} {
		checkRows(t, "P4.3", tableOf(t, most, field("", ""), field("a", "b")))
	}
}

// TestAddLike is of P4.3: a row that is like another, or like one that never changes, is one more.
func TestAddLike(t *testing.T) {
	a, path := field("a", "1"), field(":path", "/")
	checkRows(t, "P4.3", tableOf(t, 1000, a, a, path, a, path), path, a, path, a, a)
	checkRows(t, "P4.3", tableOf(t, 68, a, a, a), a, a)
}

// TestAddNever is of P4.3: Never isn't kept.
func TestAddNever(t *testing.T) {
	x := tableOf(t, 1000, never("a", "1"), never("authorization", "secret"))
	checkRows(t, "P4.3", x, field("authorization", "secret"), field("a", "1"))
}

// TestAddKeepsNoMemory is of P4.3: what a row was made of may be written over behind the call.
func TestAddKeepsNoMemory(t *testing.T) {
	b := []byte("namevalue")
	x := tableOf(t, 1000, field(unsafe.String(&b[0], 4), unsafe.String(&b[4], 5)))
	clear(b)
	checkRows(t, "P4.3", x, field("name", "value"))
	checkFind(t, "P4.3", x, field("name", "value"), fixed+1, true)
	checkFind(t, "P4.3", x, field("name", ""), fixed+1, false)
}

// TestAtFixed is of P4.4: the rows that never change, whatever came.
func TestAtFixed(t *testing.T) {
	if len(fixedFields) != fixed {
		t.Fatalf("P4.4: the chapter has %d rows", len(fixedFields))
	}
	for _, x := range []*table.Table{tableOf(t, 0), tableOf(t, 1000, field(":path", "/"), field("a", "b"))} {
		checkFixed(t, "P4.4", x)
	}
}

// TestAtWrong is of P4.4: numbers of no row, the one behind the last row among them.
func TestAtWrong(t *testing.T) {
	for came := range 4 {
		x := tableOf(t, 1000)
		for range came {
			x.Add(field("a", "b"))
		}
		for _, n := range []int{0, -1, -61, -62, -1 << 32, math.MinInt, math.MinInt + fixed, fixed + 1 + came, fixed + 2 + came, 1 << 16, 1 << 32, 1<<32 + 1, 1<<32 + 62, 1 << 62, math.MaxInt - fixed, math.MaxInt} {
			checkNoRow(t, "P4.4", x, n)
		}
	}
}

// TestFindFixed is of P4.5: each row that never changes is found by its own number, with what came behind it, too.
func TestFindFixed(t *testing.T) {
	x := tableOf(t, maxMost)
	for range 2 {
		for i, f := range fixedFields {
			checkFind(t, "P4.5", x, f, i+1, true)
			checkFind(t, "P4.5", x, never(f.Name, f.Value), i+1, true)
		}
		for _, f := range fixedFields {
			x.Add(f)
		}
	}
}

// TestFindFixedNames is of P4.5: the least number of a row with the name, where none has the value.
func TestFindFixedNames(t *testing.T) {
	least := map[string]int{}
	for i, f := range fixedFields {
		if least[f.Name] == 0 {
			least[f.Name] = i + 1
		}
	}
	for _, x := range []*table.Table{tableOf(t, 0), tableOf(t, maxMost, fixedFields...)} {
		for name, n := range least {
			checkFind(t, "P4.5", x, field(name, "no such"), n, false)
		}
	}
	x := tableOf(t, 0)
	for f, n := range map[api.Field]int{
		field(":method", "PUT"): 2, field(":method", ""): 2, field(":method", "get"): 2, field(":path", ""): 4, field(":path", "/x"): 4, field(":scheme", "ftp"): 6,
		field(":status", "999"): 8, field(":status", "2000"): 8, field("accept-encoding", ""): 16, field("accept-encoding", "gzip"): 16, field("via", "x"): 60,
		field("", ""): 0, field("", "/"): 0, field("Accept", ""): 0, field("path", "/"): 0, field(":pat", "h/"): 0, field(":path/", ""): 0, field("x", ""): 0,
	} {
		checkFind(t, "P4.5", x, f, n, false)
	}
}

// TestFindCame is of P4.5: of rows that are alike the youngest; a row with the value ahead of all that have the name alone.
func TestFindCame(t *testing.T) {
	x := tableOf(t, 1000, field("a", "1"), field("a", "2"), field("b", "1"), field("a", "1"), field(":path", "/x"), field("", ""))
	for _, r := range []struct {
		f    api.Field
		n    int
		same bool
	}{
		{field("", ""), 62, true}, {field("", "x"), 62, false},
		{field(":path", "/x"), 63, true}, {field(":path", "/"), 4, true}, {field(":path", "/y"), 4, false},
		{field("a", "1"), 64, true}, {field("a", "2"), 66, true}, {field("a", "3"), 64, false}, {field("a", ""), 64, false},
		{field("b", "1"), 65, true}, {field("b", "2"), 65, false},
		{never("b", "1"), 65, true}, {never("b", "2"), 65, false},
		{field("A", "1"), 0, false}, {field("a1", ""), 0, false}, {field("c", "1"), 0, false},
	} {
		checkFind(t, "P4.5", x, r.f, r.n, r.same)
	}
}

// TestFindGone is of P4.5: a row that went isn't found; one that is like it and is there still is.
func TestFindGone(t *testing.T) {
	x := tableOf(t, 3*34, field("a", "1"), field("b", "1"), field("a", "1"))
	x.Add(field("c", "1"))
	checkFind(t, "P4.5", x, field("a", "1"), 63, true)
	checkFind(t, "P4.5", x, field("a", "2"), 63, false)
	x.Add(field("d", "1"))
	checkFind(t, "P4.5", x, field("b", "1"), 0, false)
	checkFind(t, "P4.5", x, field("a", "1"), 64, true)
	x.Add(field("d", "2"))
	checkFind(t, "P4.5", x, field("a", "1"), 0, false)
	checkFind(t, "P4.5", x, field("d", "1"), 63, true)
	x.Add(field("a", "2"))
	checkFind(t, "P4.5", x, field("a", "1"), 62, false)
	x.Add(field("e", "1"))
	checkFind(t, "P4.5", x, field("d", "1"), 64, false)
	x.Resize(68)
	checkFind(t, "P4.5", x, field("d", "2"), 0, false)
	x.Resize(0)
	checkFind(t, "P4.5", x, field("a", "2"), 0, false)
	checkFind(t, "P4.5", x, field("via", "2"), 60, false)
}

// TestNoTable is of P4.6.
func TestNoTable(t *testing.T) {
	var x *table.Table
	for range 2 {
		checkSize(t, "P4.6", x, 0, 0, 0)
		for _, most := range append(wrongMosts(), 0, 1, 100, maxMost) {
			if e := x.Resize(most); e != api.ErrArg {
				t.Errorf("P4.6: Resize(%d): %d", most, e)
			}
		}
		checkFixed(t, "P4.6", x)
		for i, f := range fixedFields {
			checkFind(t, "P4.6", x, f, i+1, true)
		}
		for _, n := range []int{0, -1, 62, 63, math.MinInt, math.MaxInt} {
			checkNoRow(t, "P4.6", x, n)
		}
		checkFind(t, "P4.6", x, field(":method", "PUT"), 2, false)
		checkFind(t, "P4.6", x, field("a", "b"), 0, false)
		x.Add(field("a", "b"))
		x.Add(field("", ""))
	}
}

// TestChapter is of P4.1 to P4.5: the chapter's examples.
func TestChapter(t *testing.T) {
	x := tableOf(t, 100, field("a", "b"))
	checkSize(t, "P4.3", x, 100, 34, 1)
	x.Add(field("c", "d"))
	checkRows(t, "P4.3", x, field("c", "d"), field("a", "b"))
	checkSize(t, "P4.3", x, 100, 68, 2)
	x.Add(field("e", "f"))
	checkRows(t, "P4.3", x, field("e", "f"), field("c", "d"))
	x.Resize(40)
	checkRows(t, "P4.2", x, field("e", "f"))
	x.Add(field(strings.Repeat("n", 20), strings.Repeat("v", 30)))
	checkRows(t, "P4.3", x)
	checkFind(t, "P4.5", x, field(":method", "PUT"), 2, false)
	checkFind(t, "P4.5", x, field(":path", "/"), 4, true)
}
