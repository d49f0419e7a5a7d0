package table_test

import (
	"strconv"
	"strings"
	"testing"

	"drawbridge/api"
	"drawbridge/table"
)

// some are fields of which many have names or values alike, short and long ones.
func some() []api.Field {
	var list []api.Field
	for _, name := range []string{"", "a", "ab", "b", ":path", ":status", "via", "accept-encoding", strings.Repeat("n", 40)} {
		for _, value := range []string{"", "b", "1", "/", "200", "gzip, deflate", strings.Repeat("v", 60)} {
			list = append(list, field(name, value), never(name, value))
		}
	}
	return list
}

// checkLike holds all that a table tells against what a model does.
func checkLike(t *testing.T, x *table.Table, m *model, asked []api.Field) {
	t.Helper()
	checkSize(t, "P4.1", x, m.most, m.size(), len(m.came))
	if x.Size() > x.Most() {
		t.Errorf("P4.1: the size %d is above %d", x.Size(), x.Most())
	}
	checkFixed(t, "P4.4", x)
	checkRows(t, "P4.4", x, m.came...)
	checkNoRow(t, "P4.4", x, 0)
	rows := m.all()
	for _, f := range asked {
		n, same := findIn(rows, f)
		checkFind(t, "P4.5", x, f, n, same)
	}
}

// TestLikeModel is of P4.1 to P4.5: a table and a model that are given the same are alike after each step.
func TestLikeModel(t *testing.T) {
	mosts := []int{400, 0, 31, 32, 33, 34, 68, 100, 101, 131, 132, 133, 200, 1000, maxMost, maxMost + 1, -1}
	fields := some()
	for first := range uint32(12) {
		x, m := tableOf(t, 400), &model{most: 400}
		state := first
		next := func(n int) int { // some number below n, another one each time
			state = state*1664525 + 1013904223
			return int(state>>8) % n
		}
		for range 400 {
			if most := mosts[next(len(mosts))]; next(8) > 0 {
				f := fields[next(len(fields))]
				x.Add(f)
				m.add(f)
			} else if x.Resize(most) == api.OK {
				m.resize(most)
			}
			checkLike(t, x, m, fields)
			if t.Failed() {
				return
			}
		}
	}
}

// TestManyRows is of P4.3 and P4.5: as many rows as there may be, and far more that came.
func TestManyRows(t *testing.T) {
	x := tableOf(t, maxMost)
	for i := range 3 * maxMost / perRow {
		x.Add(field("", ""))
		checkSize(t, "P4.3", x, maxMost, min(maxMost, (i+1)*perRow), min(maxMost/perRow, i+1))
	}
	x = tableOf(t, maxMost)
	m := &model{most: maxMost}
	for i := range 5000 {
		f := field("n"+strconv.Itoa(i%7), strconv.Itoa(i%1777))
		x.Add(f)
		m.add(f)
	}
	var asked []api.Field
	for i := range 1777 {
		asked = append(asked, field("n"+strconv.Itoa(i%7), strconv.Itoa(i)), field("n"+strconv.Itoa(i%8), "no such"))
	}
	checkLike(t, x, m, asked)
}
