package chop_test

import (
	"slices"
	"strings"
	"testing"

	"drawbridge/api"
	"drawbridge/chop"
)

// rows: items one behind the other, whose bytes are cut in all ways.
func rows() [][]told {
	l := [][]told{good[:7], good[6:], {good[0], good[1], fatal[1], good[5]}, {good[4], fatal[7], good[1]}, {good[8], good[5], fatal[8], fatal[0]}}
	for _, r := range fatal {
		l = append(l, []told{r, good[3]}, []told{good[7], r})
	}
	return l
}

// TestCutOnce is of P7.4: bytes that are cut into three pieces, at every two places.
func TestCutOnce(t *testing.T) {
	for _, row := range rows() {
		b := bytesOf(row)
		items := func(n int) ([]api.Item, int, bool) { return soFar(row, n) }
		for i := range len(b) + 1 {
			for j := i; j <= len(b); j++ {
				checkPieces(t, chop.New(someLimit, false), items, b[:i], b[i:j], b[j:])
			}
		}
	}
}

// TestCutPreface is of P7.4: the preface and what stands behind it, cut at every two places.
func TestCutPreface(t *testing.T) {
	for _, row := range rows() {
		b := preface + bytesOf(row)
		items := func(n int) ([]api.Item, int, bool) {
			if n < len(preface) {
				return nil, n, false
			}
			return soFar(row, n-len(preface))
		}
		for i := range len(b) + 1 {
			for j := i; j <= len(b); j++ {
				checkPieces(t, chop.New(someLimit, true), items, b[:i], b[i:j], b[j:])
			}
		}
	}
}

// TestCutEven is of P7.4: pieces of the same length each, byte by byte among them.
func TestCutEven(t *testing.T) {
	for _, row := range append(rows(), good, slices.Concat(good, good, fatal[3:4], good)) {
		b := bytesOf(row)
		items := func(n int) ([]api.Item, int, bool) { return soFar(row, n) }
		for size := 1; size <= len(b); size++ {
			var pieces []string
			for piece := range slices.Chunk([]byte(b), size) {
				pieces = append(pieces, "", string(piece))
			}
			checkPieces(t, chop.New(someLimit, false), items, pieces...)
		}
	}
}

// TestCutLong is of P7.4: a long payload, byte by byte, and a row of long ones in pieces that fit nowhere.
func TestCutLong(t *testing.T) {
	b := framed(0, 0, 1, strings.Repeat("x", 1<<20))
	item := came(api.Frame{Stream: 1, Data: b[headSize:]})
	f := chop.New(maxPayload, false)
	for i := range len(b) - 1 {
		if l := f.Take([]byte{b[i]}); len(l) != 0 || f.Left() != i+1 {
			t.Fatalf("P7.4: %d items behind %d bytes, Left %d", len(l), i+1, f.Left())
		}
	}
	checkTake(t, "P7.4", f, b[len(b)-1:], []api.Item{item}, 0, false)

	row := []told{}
	for i := range 40 {
		data := strings.Repeat(string([]byte{byte('a' + i%26)}), someLimit-i*i)
		row = append(row, told{framed(0, 0, i+1, data), came(api.Frame{Stream: i + 1, Data: data})})
	}
	items := func(n int) ([]api.Item, int, bool) { return soFar(row, n) }
	var pieces []string
	for piece := range slices.Chunk([]byte(bytesOf(row)), 7919) {
		pieces = append(pieces, string(piece))
	}
	checkPieces(t, chop.New(someLimit, false), items, pieces...)
}

// dice gives some numbers, for each first state others.
type dice uint32

// below: some number from 0 on, below n.
func (d *dice) below(n int) int {
	*d = *d*1664525 + 1013904223
	return int(*d>>8) % n
}

// bytes: a row of items, some of them with a wrong byte.
func (d *dice) bytes() string {
	b := ""
	for range d.below(8) {
		whole := []byte(good[d.below(len(good))].bytes)
		switch d.below(12) {
		case 0:
			whole = []byte(fatal[d.below(len(fatal))].bytes)
		case 1:
			whole[d.below(len(whole))] = byte(d.below(256))
		case 2:
			whole[2] = byte(d.below(20))
		}
		b += string(whole)
	}
	return b
}

// pieces: bytes in some pieces, empty ones among them.
func (d *dice) pieces(b string) []string {
	var l []string
	most := 1 + d.below(40)
	for b != "" {
		n := min(d.below(most+1), len(b))
		l = append(l, b[:n])
		b = b[n:]
	}
	return l
}

// TestLikeModel is of P7.4: rows of any kind, in any pieces, with any limits, against the model.
func TestLikeModel(t *testing.T) {
	ends := map[bool]int{}
	for first := range 20000 {
		d := dice(first * 7919)
		b, greeted := d.bytes(), d.below(2) == 0
		if greeted && d.below(10) == 0 {
			b = preface[:d.below(24)] + b
		} else if greeted {
			b = preface + b
		}
		most := []int{-1, 0, 1, 4, 5, 8, 9, 12, someLimit, someLimit, someLimit, maxPayload, 1 << 40}[d.below(13)]
		items := func(n int) ([]api.Item, int, bool) { return model(b[:n], most, greeted) }
		f := chop.New(most, greeted)
		checkPieces(t, f, items, d.pieces(b)...)
		if bound := max(most, 0) + headSize; f.Left() > bound && f.Left() > len(preface)-1 {
			t.Errorf("P7.4: Left %d, though the limit is %d", f.Left(), most)
		}
		ends[f.Over()]++
	}
	if ends[true] < 2000 || ends[false] < 2000 {
		t.Errorf("over, or not: %v", ends)
	}
}
