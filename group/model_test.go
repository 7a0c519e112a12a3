package group_test

import (
	"math"
	"math/big"
	"slices"
	"testing"

	"gunny/group"
)

// noNumbers are numbers that can't be in a book.
var noNumbers = []int{
	math.MinInt, math.MinInt + 1, math.MinInt + 7, -1 << 62, -1<<62 + 7, -1 << 32, -1<<32 + 7, -65536, -65529, -4097, -4096, -4095, -4089, -7, -2, -1,
	4096, 4097, 4103, 8191, 8192, 8199, 65535, 65536, 65543, 1 << 31, 1<<31 + 7, 1 << 32, 1<<32 + 7, 1 << 52, 1 << 62, 1<<62 + 7, math.MaxInt - 1, math.MaxInt,
}

// noGroups are numbers that no group has.
var noGroups = []int{
	math.MinInt, math.MinInt + 4, -1 << 62, -1 << 32, -1<<32 + 1, -256, -5, -4, -3, -2, -1,
	5, 6, 7, 8, 9, 255, 256, 257, 260, 65536, 1 << 31, 1 << 32, 1<<32 + 1, 1<<32 + 4, 1 << 62, 1<<62 + 2, math.MaxInt - 1, math.MaxInt,
}

// plainOf holds parts against thirds as they are.
func plainOf(used, many int) int {
	if many < 1 || used >= many {
		return 4
	}
	if used < 1 {
		return 0
	}
	part := big.NewRat(int64(used), int64(many))
	if part.Cmp(big.NewRat(1, 3)) <= 0 {
		return 1
	}
	if part.Cmp(big.NewRat(2, 3)) <= 0 {
		return 2
	}
	return 3
}

// entry is a number with how many are taken, and how many there are.
type entry struct{ n, used, many int }

func (e entry) group() int { return plainOf(e.used, e.many) }

// plain is a book as a list, in the order in which its numbers were put.
type plain []entry

func (p plain) at(n int) int {
	return slices.IndexFunc(p, func(e entry) bool { return e.n == n })
}

func (p plain) without(but []int) plain {
	var out plain
	for _, e := range p {
		if !slices.Contains(but, e.n) {
			out = append(out, e)
		}
	}
	return out
}

func (p plain) best(but []int) (int, bool) {
	var all plain
	for _, e := range p.without(but) {
		if e.used != e.many {
			all = append(all, e)
		}
	}
	if len(all) == 0 {
		return 0, false
	}
	first := all[0]
	for _, e := range all {
		free, least := e.many-e.used, first.many-first.used
		if free < least || free == least && e.n < first.n {
			first = e
		}
	}
	return first.n, true
}

func (p plain) worst() (int, bool) {
	var all plain
	for _, e := range p {
		if e.used != 0 && e.used != e.many {
			all = append(all, e)
		}
	}
	if len(all) == 0 {
		return 0, false
	}
	first := all[0]
	for _, e := range all {
		if e.used < first.used || e.used == first.used && e.n > first.n {
			first = e
		}
	}
	return first.n, true
}

func (p plain) room(but []int) int {
	sum := 0
	for _, e := range p.without(but) {
		sum += e.many
		sum -= e.used
	}
	return sum
}

func (p plain) count(group int) int {
	sum := 0
	for _, e := range p {
		if e.group() == group {
			sum++
		}
	}
	return sum
}

// numbers are those in the book, rising.
func (p plain) numbers() []int {
	var out []int
	for _, e := range p {
		out = append(out, e.n)
	}
	slices.Sort(out)
	return out
}

// pair is a book, and the plain one beside it.
type pair struct {
	*testing.T
	b *group.Book
	p plain
}

func newPair(t *testing.T, entries ...entry) *pair {
	t.Helper()
	b := &pair{T: t, b: group.New()}
	for _, e := range entries {
		b.put(e.n, e.used, e.many)
	}
	return b
}

func (b *pair) put(n, used, many int) {
	b.Helper()
	want := n >= 0 && n <= 4095 && used >= 0 && used <= many
	if got := b.b.Put(n, used, many); got != want {
		b.Fatalf("Put(%d, %d, %d): %t", n, used, many, got)
	}
	if want {
		b.p = append(b.p.without([]int{n}), entry{n, used, many})
	}
}

func (b *pair) drop(n int) {
	b.Helper()
	want := b.p.at(n) >= 0
	if got := b.b.Drop(n); got != want {
		b.Fatalf("Drop(%d): %t", n, got)
	}
	b.p = b.p.without([]int{n})
}

// isBut fails if the best one, or the room, of all but these is another one.
func (b *pair) isBut(but ...int) {
	b.Helper()
	n, ok := b.b.Best(but...)
	if want, wantOK := b.p.best(but); n != want || ok != wantOK {
		b.Fatalf("Best but %v: %d, %t, not %d, %t", but, n, ok, want, wantOK)
	}
	if got, want := b.b.Room(but...), b.p.room(but); got != want {
		b.Fatalf("Room but %v: %d, not %d", but, got, want)
	}
}

// tellsSame fails if the book tells anything else than the plain one.
func (b *pair) tellsSame() {
	b.Helper()
	b.isBut()
	n, ok := b.b.Worst()
	if want, wantOK := b.p.worst(); n != want || ok != wantOK {
		b.Fatalf("Worst: %d, %t, not %d, %t", n, ok, want, wantOK)
	}
	for g := range 5 {
		if got, want := b.b.Count(g), b.p.count(g); got != want {
			b.Fatalf("Count(%d): %d, not %d", g, got, want)
		}
	}
}

// countsNone fails if any number that is no group has some.
func (b *pair) countsNone() {
	b.Helper()
	for _, g := range noGroups {
		if got := b.b.Count(g); got != 0 {
			b.Fatalf("Count(%d): %d", g, got)
		}
	}
}

// tellsEach fails if the book tells anything else than the plain one, of all
// but each number (of a great book: but some), and of all but each row of the
// best ones.
func (b *pair) tellsEach() {
	b.Helper()
	b.tellsSame()
	all := b.p.numbers()
	for at := 0; at < len(all); at += 1 + len(all)/40 {
		b.isBut(all[at])
	}
	var but []int
	for range 25 {
		n, ok := b.b.Best(but...)
		if !ok {
			break
		}
		but = append(but, n)
		b.isBut(but...)
	}
}

// dropsEach drops all numbers that there may be, and tells what is left.
func (b *pair) dropsEach() {
	b.Helper()
	for n := range 4096 {
		was := b.p.at(n) >= 0
		b.drop(n)
		if was && len(b.p) < 70 {
			b.tellsSame()
		}
	}
	b.tellsSame()
}

// changesNothing fails if what is done changes anything that a later call could
// tell.
func (b *pair) changesNothing(do func()) {
	b.Helper()
	do()
	b.tellsEach()
	for n := range 4096 {
		at := b.p.at(n)
		if got := b.b.Drop(n); got != (at >= 0) {
			b.Fatalf("%d is in the book: %t", n, got)
		} else if got {
			b.b.Put(n, b.p[at].used, b.p[at].many)
		}
	}
	b.tellsSame()
}

// fillings are names, and what stands in a book.
func fillings() map[string][]entry {
	return map[string][]entry{
		"none":                      nil,
		"one that is Empty":         {{7, 0, 5}},
		"one that has one":          {{7, 1, 5}},
		"one that has but one free": {{7, 4, 5}},
		"one that is Full":          {{7, 5, 5}},
		"one without objects":       {{7, 0, 0}},
		"one of one, Empty":         {{0, 0, 1}},
		"one of one, Full":          {{4095, 1, 1}},
		"the example":               {{0, 3, 4}, {1, 1, 4}},
		"the ends":                  {{4095, 2, 9}, {0, 7, 9}},
		"all Empty":                 {{3, 0, 4}, {1, 0, 4}, {4, 0, 64}, {2, 0, 2}, {5, 0, 2}},
		"all Full":                  {{3, 4, 4}, {1, 4, 4}, {4, 64, 64}, {2, 2, 2}, {5, 0, 0}},
		"Empty and Full":            {{3, 4, 4}, {1, 0, 4}, {4, 64, 64}, {2, 0, 2}, {5, 0, 0}},
		"equally few free":          {{30, 3, 6}, {20, 61, 64}, {10, 0, 3}, {40, 1, 4}, {15, 5, 9}},
		"equally few taken":         {{30, 2, 6}, {50, 2, 64}, {10, 2, 3}, {40, 2, 5}, {60, 3, 4}},
		"equally few of all":        {{9, 2, 7}, {3, 2, 7}, {4094, 2, 7}, {0, 2, 7}, {64, 2, 7}},
		"one of each":               {{4, 9, 9}, {3, 7, 9}, {2, 4, 9}, {1, 2, 9}, {0, 0, 9}},
		"the greatest int":          {{5, 1 << 61, math.MaxInt}, {6, 1, 2}, {7, math.MaxInt, math.MaxInt}, {8, 0, 1 << 60}},
		"many":                      manyEntries(64, 5),
		"all numbers":               manyEntries(4096, 2049),
	}
}

// manyEntries are so many numbers from 0 on, step apart, from 4095 on from 0 on
// again, with all that up to 64 objects may have.
func manyEntries(many, step int) []entry {
	next := steps(many)
	var out []entry
	for at := range many {
		objects := next() % 65
		out = append(out, entry{at * step % 4096, next() % (objects + 1), objects})
	}
	return out
}

func everyFilling(t *testing.T, do func(b *pair)) {
	for name, entries := range fillings() {
		t.Run(name, func(t *testing.T) {
			do(newPair(t, entries...))
		})
	}
}

// orders are all rows in which so many may stand.
func orders(many int) [][]int {
	if many == 0 {
		return [][]int{nil}
	}
	var out [][]int
	for _, row := range orders(many - 1) {
		for at := range many {
			out = append(out, slices.Insert(slices.Clone(row), at, many-1))
		}
	}
	return out
}

// steps is a row of numbers from 0 on that is always the same one for a seed.
func steps(from int) func() int {
	seed := uint32(from)
	return func() int {
		seed = seed*1664525 + 1013904223
		return int(seed >> 8)
	}
}
