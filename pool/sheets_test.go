package pool_test

import (
	"math"
	"slices"
	"testing"

	"gunny/handle"
	"gunny/pool"
)

// Promise 20.2

func TestAnEmptyPoolHasNothing(t *testing.T) {
	for _, name := range []string{"empty", "all freed"} {
		for _, f := range fillings {
			if f.name != name {
				continue
			}
			b := newPair(t, f.frames)
			f.lay(b)
			if b.p.Len() != 0 || b.p.Bytes() != 0 || b.p.Frames() != 0 || len(b.p.Sheets()) != 0 {
				t.Errorf("Len %d, Bytes %d, Frames %d, Sheets %v", b.p.Len(), b.p.Bytes(), b.p.Frames(), b.p.Sheets())
			}
			for class := range 64 {
				if got := b.p.Objects(class); got != 0 {
					t.Errorf("Objects(%d): %d", class, got)
				}
			}
		}
	}
}

// All is told out by hand here, besides what the plain list says.
func TestCountsOfAFew(t *testing.T) {
	b := newPair(t, 16)
	for n, many := range []int{1, 64, 3008, 2945, 4096, 2000, 65} {
		b.put(many, n)
	}
	if b.p.Len() != 7 || b.p.Bytes() != 12179 || b.p.Frames() != 7 {
		t.Errorf("Len %d, Bytes %d, Frames %d", b.p.Len(), b.p.Bytes(), b.p.Frames())
	}
	for class, want := range map[int]int{0: 2, 46: 2, 63: 1, 31: 1, 1: 1, 2: 0, 45: 0, 47: 0, 62: 0} {
		if got := b.p.Objects(class); got != want {
			t.Errorf("Objects(%d): %d, not %d", class, got, want)
		}
	}
	want := []pool.Sheet{
		{Page: 0, Class: 0, Used: 2, Many: 64, Row: []int{0}},
		{Page: 1, Class: 46, Used: 2, Many: 4, Row: []int{1, 2, 3}},
		{Page: 2, Class: 63, Used: 1, Many: 1, Row: []int{4}},
		{Page: 3, Class: 31, Used: 1, Many: 2, Row: []int{5}},
		{Page: 4, Class: 1, Used: 1, Many: 32, Row: []int{6}},
	}
	if got := b.p.Sheets(); !slices.EqualFunc(got, want, sameSheet) {
		t.Errorf("Sheets: %v", got)
	}
}

// Behind each Alloc, each Shift and each Free.
func TestCountsBehindEach(t *testing.T) {
	b := newPair(t, 96)
	some := []int{50, 1000, 2000, 3000, 700}
	for n := range 90 {
		b.put(some[n%5]-n%7, n)
		b.tellsCounts()
		b.where(n + 1)
	}
	for n := range 90 {
		if n%3 > 0 {
			b.free(n + 1)
			b.tellsCounts()
			b.where(n + 1)
		}
	}
	shifted := 0
	for n := range 90 {
		if b.shift(n + 1) {
			shifted++
		}
		b.tellsCounts()
		b.where(n + 1)
	}
	if shifted == 0 {
		t.Error("none was shifted")
	}
	b.tellsSame()
}

func TestObjectsOfNoClass(t *testing.T) {
	everyFilling(t, func(b *pair) {
		for _, class := range noClasses() {
			if got := b.p.Objects(class); got != 0 {
				b.Fatalf("Objects(%d): %d", class, got)
			}
		}
	})
}

func TestWhereOfNone(t *testing.T) {
	everyFilling(t, func(b *pair) {
		for _, h := range notInUse(b) {
			if p, ok := b.p.Where(h); p != (handle.Place{}) || ok {
				b.Fatalf("Where(%d): %v, %t", h, p, ok)
			}
		}
	})
}

// A number that no zspage has any more isn't told, and is told anew then.
func TestSheetsRiseByNumbers(t *testing.T) {
	b := newPair(t, 24)
	b.lay(63, 1, 1, 1, 1, 1)
	for _, c := range []struct {
		free int
		want []int
	}{{2, []int{0, 2, 3, 4}}, {4, []int{0, 2, 4}}, {1, []int{2, 4}}, {5, []int{2}}} {
		b.free(c.free)
		tellsNumbers(b, c.want...)
	}
	for _, want := range [][]int{{0, 2}, {0, 1, 2}, {0, 1, 2, 3}, {0, 1, 2, 3, 4}, {0, 1, 2, 3, 4, 5}} {
		b.put(4096-len(want), len(want))
		tellsNumbers(b, want...)
	}
}

func tellsNumbers(b *pair, want ...int) {
	b.Helper()
	var got []int
	for _, s := range b.p.Sheets() {
		got = append(got, s.Page)
	}
	if !slices.Equal(got, want) {
		b.Fatalf("Sheets have numbers %v, not %v", got, want)
	}
	b.tellsSame()
}

func TestSheetsAreNewMemory(t *testing.T) {
	everyFilling(t, func(b *pair) {
		sheets := b.p.Sheets()
		for at := range sheets {
			row := sheets[at].Row
			row = append(row, 95)
			for n := range row {
				row[n] = math.MinInt
			}
			sheets[at] = pool.Sheet{Page: 7, Class: 63, Used: 9, Many: 9}
		}
		b.tellsSame()
	})
}

func TestRowsShareNoMemory(t *testing.T) {
	b := newPair(t, 24)
	b.lay(46, 1, 2, 3)
	sheets := b.p.Sheets()
	for at := range sheets {
		for n := range sheets[at].Row {
			sheets[at].Row[n] = at
		}
		sheets[at].Row = append(sheets[at].Row, 70+at, 80+at)
	}
	for at, s := range sheets {
		if !slices.Equal(s.Row, []int{at, at, at, 70 + at, 80 + at}) {
			t.Errorf("row %d: %v", at, s.Row)
		}
	}
}

// What was told stays as it was, whatever is done then.
func TestSheetsAreNotChangedByLaterCalls(t *testing.T) {
	b := newPair(t, 16)
	b.lay(15, 2, 3)
	b.lay(46, 1)
	told := b.p.Sheets()
	want := b.p.Sheets()
	for _, h := range []int{1, 2, 5} {
		b.shift(h)
		b.free(h)
		b.put(4096, h)
	}
	if len(told) != 3 || !slices.EqualFunc(told, want, sameSheet) {
		t.Errorf("Sheets: %v, not %v", told, want)
	}
}

func TestTellingChangesNothing(t *testing.T) {
	everyFilling(t, func(b *pair) {
		b.changesNothing("telling", func() {
			b.Helper()
			for range 2 {
				b.tellsCounts()
				for h := range 514 {
					b.where(h)
				}
			}
		})
	})
}
