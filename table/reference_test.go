package table_test

import (
	"fmt"
	"strconv"
	"strings"

	"drawbridge/api"
)

const (
	maxMost = 65536 // the greatest most
	perRow  = 32    // what a row costs beside its bytes
	fixed   = 61    // how many rows never change
)

// chapter is what the chapter says of the rows that never change.
const chapter = "1 :authority; 2 :method `GET`; 3 :method `POST`; 4 :path `/`; 5 :path `/index.html`; 6 :scheme `http`; 7 :scheme `https`; 8 :status `200`; 9 :status `204`; 10 :status `206`; 11 :status `304`; 12 :status `400`; 13 :status `404`; 14 :status `500`; 15 accept-charset; 16 accept-encoding `gzip, deflate`; 17 accept-language; 18 accept-ranges; 19 accept; 20 access-control-allow-origin; 21 age; 22 allow; 23 authorization; 24 cache-control; 25 content-disposition; 26 content-encoding; 27 content-language; 28 content-length; 29 content-location; 30 content-range; 31 content-type; 32 cookie; 33 date; 34 etag; 35 expect; 36 expires; 37 from; 38 host; 39 if-match; 40 if-modified-since; 41 if-none-match; 42 if-range; 43 if-unmodified-since; 44 last-modified; 45 link; 46 location; 47 max-forwards; 48 proxy-authenticate; 49 proxy-authorization; 50 range; 51 referer; 52 refresh; 53 retry-after; 54 server; 55 set-cookie; 56 strict-transport-security; 57 transfer-encoding; 58 user-agent; 59 vary; 60 via; 61 www-authenticate"

// fixedFields are the rows that never change, the first one at 0.
var fixedFields = readChapter()

func readChapter() []api.Field {
	var list []api.Field
	for i, text := range strings.Split(chapter, "; ") {
		number, rest, _ := strings.Cut(text, " ")
		name, value, _ := strings.Cut(rest, " ")
		if number != strconv.Itoa(i+1) {
			panic(text)
		}
		list = append(list, field(name, strings.Trim(value, "`")))
	}
	return list
}

// field: a field with a name and a value.
func field(name, value string) api.Field { return api.Field{Name: name, Value: value} }

// never: a field that is never kept on its way.
func never(name, value string) api.Field { return api.Field{Name: name, Value: value, Never: true} }

// say: a field as a failing test tells it; of long texts the beginning and the length.
func say(f api.Field) string {
	return fmt.Sprintf("%.40q (%d) %.40q (%d) %v", f.Name, len(f.Name), f.Value, len(f.Value), f.Never)
}

// model is a table as the chapter says it: rows in their order, gone through one by one.
type model struct {
	most int
	came []api.Field // the youngest first
}

// size: the costs of the rows that came, together.
func (m *model) size() int {
	sum := 0
	for _, f := range m.came {
		sum += costOf(f)
	}
	return sum
}

func costOf(f api.Field) int { return len(f.Name) + len(f.Value) + perRow }

// cut lets the oldest rows go till the others and one more cost have room.
func (m *model) cut(more int) {
	for len(m.came) > 0 && m.size()+more > m.most {
		m.came = m.came[:len(m.came)-1]
	}
}

func (m *model) resize(most int) {
	m.most = most
	m.cut(0)
}

func (m *model) add(f api.Field) {
	m.cut(costOf(f))
	if costOf(f) <= m.most {
		m.came = append([]api.Field{field(f.Name, f.Value)}, m.came...)
	}
}

// all: the rows by their numbers, the row 1 at 0.
func (m *model) all() []api.Field {
	return append(append([]api.Field{}, fixedFields...), m.came...)
}

// findIn: what Find says of a field, where the rows are these.
func findIn(rows []api.Field, f api.Field) (int, bool) {
	named := 0
	for i, r := range rows {
		if r.Name == f.Name && r.Value == f.Value {
			return i + 1, true
		}
		if r.Name == f.Name && named == 0 {
			named = i + 1
		}
	}
	return named, false
}
