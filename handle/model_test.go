package handle_test

import (
	"math"
	"slices"
	"testing"

	"gunny/api"
	"gunny/handle"
)

// far are numbers that are no handle, no zspage's, no object's and no length;
// some of them would be one if only their lower bits were looked at.
var far = []int{
	math.MinInt, math.MinInt + 1, math.MinInt + 7, -1 << 62, -1<<62 + 7, -1 << 32, -1<<32 + 1, -1<<32 + 7, -65536, -65529, -4097, -4096, -4095, -513, -512, -511, -257, -256, -255, -7, -2, -1,
	4097, 4103, 8191, 8192, 8199, 65535, 65536, 65543, 1 << 31, 1<<31 + 7, 1 << 32, 1<<32 + 1, 1<<32 + 7, 1 << 52, 1 << 62, 1<<62 + 7, math.MaxInt - 1, math.MaxInt,
}

func noPages() []int { return append(slices.Clone(far), 4096) }

func noObjects() []int {
	return append(slices.Clone(far), 256, 257, 263, 511, 512, 4095, 4096)
}

func noLengths() []int { return append(slices.Clone(far), 0) }

func noHandles() []int {
	return append(slices.Clone(far), 0, 513, 514, 519, 1023, 1024, 1025, 1031, 4095, 4096)
}

// noPlaces are places that may not be, each part of them that can't be beside
// others that can; and a zero one.
func noPlaces() []handle.Place {
	out := []handle.Place{{}, {Page: 5}, {Obj: 5}, {Page: 5, Obj: 5}, {Page: -1, Obj: -1, Len: -1}, {Page: 4096, Obj: 256, Len: 4097}}
	for _, n := range noPages() {
		out = append(out, handle.Place{Page: n, Len: 1}, handle.Place{Page: n, Obj: 255, Len: 4096})
	}
	for _, n := range noObjects() {
		out = append(out, handle.Place{Obj: n, Len: 1}, handle.Place{Page: 4095, Obj: n, Len: 4096})
	}
	for _, n := range noLengths() {
		out = append(out, handle.Place{Len: n}, handle.Place{Page: 4095, Obj: 255, Len: n})
	}
	return out
}

// edges are places that may be, each part of them as small, or great, as it
// can be, or one beside that.
func edges() []handle.Place {
	var out []handle.Place
	for _, page := range []int{0, 1, 4094, 4095} {
		for _, obj := range []int{0, 1, 254, 255} {
			for _, long := range []int{1, 2, 4095, 4096} {
				out = append(out, handle.Place{Page: page, Obj: obj, Len: long})
			}
		}
	}
	return out
}

// placed is a place that may be, another one for each number up to a million.
func placed(n int) handle.Place {
	return handle.Place{Page: n * 7 % 4096, Obj: n / 4096 % 256, Len: 1 + n*5%4096}
}

func plainMay(p handle.Place) bool {
	in := func(n, from, to int) bool { return from <= n && n <= to }
	return in(p.Page, 0, 4095) && in(p.Obj, 0, 255) && in(p.Len, 1, 4096)
}

// entry is a handle in use, and what it stands for.
type entry struct {
	h int
	p handle.Place
}

// plain is a table as a list, in the order in which places were set.
type plain []entry

func (l plain) get(h int) (handle.Place, bool) {
	for _, e := range l {
		if e.h == h {
			return e.p, true
		}
	}
	return handle.Place{}, false
}

func (l plain) without(h int) plain {
	var out plain
	for _, e := range l {
		if e.h != h {
			out = append(out, e)
		}
	}
	return out
}

func (l plain) set(h int, p handle.Place) plain {
	return append(l.without(h), entry{h, p})
}

// least is the least handle that isn't in use; 0, if all are.
func (l plain) least() int {
	var used [513]bool
	for _, e := range l {
		used[e.h] = true
	}
	for h := 1; h <= 512; h++ {
		if !used[h] {
			return h
		}
	}
	return 0
}

func (l plain) of(page int) []int {
	var out []int
	for _, e := range l {
		if e.p.Page == page {
			out = append(out, e.h)
		}
	}
	slices.Sort(out)
	return out
}

// handles are those in use, rising.
func (l plain) handles() []int {
	var out []int
	for _, e := range l {
		out = append(out, e.h)
	}
	slices.Sort(out)
	return out
}

// pair is a table, and the plain one beside it.
type pair struct {
	*testing.T
	t *handle.Table
	l plain
}

// newPair is a table in which so many handles were made and these were dropped
// then.
func newPair(t *testing.T, many int, dropped ...int) *pair {
	t.Helper()
	b := &pair{T: t, t: handle.New()}
	for n := range many {
		b.make(placed(n))
	}
	for _, h := range dropped {
		b.drop(h)
	}
	return b
}

func (b *pair) make(p handle.Place) int {
	b.Helper()
	want, wantErr := b.l.least(), api.OK
	if !plainMay(p) {
		want, wantErr = 0, api.ErrArg
	} else if want == 0 {
		wantErr = api.ErrNoMem
	}
	h, err := b.t.Make(p)
	if h != want || err != wantErr {
		b.Fatalf("Make(%v): %d, %v, not %d, %v", p, h, err, want, wantErr)
	}
	if err == api.OK {
		b.l = b.l.set(h, p)
	}
	return h
}

func (b *pair) get(h int) {
	b.Helper()
	p, ok := b.t.Get(h)
	if want, wantOK := b.l.get(h); p != want || ok != wantOK {
		b.Fatalf("Get(%d): %v, %t, not %v, %t", h, p, ok, want, wantOK)
	}
}

func (b *pair) set(h int, p handle.Place) {
	b.Helper()
	_, used := b.l.get(h)
	want := used && plainMay(p)
	if got := b.t.Set(h, p); got != want {
		b.Fatalf("Set(%d, %v): %t", h, p, got)
	}
	if want {
		b.l = b.l.set(h, p)
	}
}

func (b *pair) drop(h int) {
	b.Helper()
	p, ok := b.t.Drop(h)
	if want, wantOK := b.l.get(h); p != want || ok != wantOK {
		b.Fatalf("Drop(%d): %v, %t, not %v, %t", h, p, ok, want, wantOK)
	}
	b.l = b.l.without(h)
}

func (b *pair) of(page int) {
	b.Helper()
	if got, want := b.t.Of(page), b.l.of(page); !slices.Equal(got, want) {
		b.Fatalf("Of(%d): %v, not %v", page, got, want)
	}
}

// tellsSame fails if the table tells anything else than the plain one of what
// handles stand for, how many are in use, and those of their zspages.
func (b *pair) tellsSame() {
	b.Helper()
	if got := b.t.Len(); got != len(b.l) {
		b.Fatalf("Len: %d, not %d", got, len(b.l))
	}
	for h := -1; h <= 514; h++ {
		b.get(h)
	}
	for _, page := range []int{-1, 0, 1, 2, 4095, 4096} {
		b.of(page)
	}
	for _, e := range b.l {
		b.of(e.p.Page)
	}
}

// tellsEach is tellsSame, of all zspages that there may be.
func (b *pair) tellsEach() {
	b.Helper()
	b.tellsSame()
	for page := range 4096 {
		b.of(page)
	}
	for _, page := range noPages() {
		b.of(page)
	}
	for _, h := range noHandles() {
		b.get(h)
	}
}

// fillsUp makes handles until all are in use, and once more, drops those that
// it made, and tells what is left.
func (b *pair) fillsUp() {
	b.Helper()
	var made []int
	for h := b.make(placed(1000)); h != 0; h = b.make(placed(1000 + h)) {
		made = append(made, h)
	}
	b.tellsSame()
	b.make(handle.Place{})
	for _, h := range made {
		b.drop(h)
	}
	b.tellsSame()
}

// changesNothing fails if what is done changes anything that a later call could
// tell.
func (b *pair) changesNothing(do func()) {
	b.Helper()
	was := slices.Clone(b.l)
	do()
	if !slices.Equal(was, b.l) {
		b.Fatal("the plain table has changed")
	}
	b.tellsEach()
	b.fillsUp()
}

// fillings are names, and how many handles are made and which dropped.
func fillings() map[string][]int {
	return map[string][]int{
		"none":                {0},
		"one":                 {1},
		"one dropped":         {1, 1},
		"two":                 {2},
		"the first dropped":   {5, 1},
		"the last dropped":    {5, 5},
		"some between":        {12, 7, 3, 10, 4},
		"all dropped, rising": {4, 1, 2, 3, 4},
		"all dropped, sunk":   {4, 4, 3, 2, 1},
		"all but one":         {511},
		"all":                 {512},
		"all, some dropped":   {512, 300, 512, 1, 17, 299},
		"all, one dropped":    {512, 256},
	}
}

func everyFilling(t *testing.T, do func(b *pair)) {
	for name, f := range fillings() {
		t.Run(name, func(t *testing.T) {
			do(newPair(t, f[0], f[1:]...))
		})
	}
}

// steps is a row of numbers from 0 on that is always the same one for a seed.
func steps(from int) func() int {
	seed := uint32(from)
	return func() int {
		seed = seed*1664525 + 1013904223
		return int(seed >> 8)
	}
}
