package chain_test

import (
	"math"
	"slices"
	"strconv"
	"testing"

	"gunny/chain"
)

// sizes are those that the chapter names, and some between.
var sizes = []int{0, 1, 2, 3, 4, 5, 64, 65, 1000, 4095, 4096}

// outside are numbers that no chain of that size may have.
func outside(size int) []int {
	return []int{
		math.MinInt, math.MinInt + 1, -1 << 62, -1 << 32, -1 << 31, -4098, -4097, -4096, -size - 1, -2, -1,
		size, size + 1, size + 2, size + 4096, 4096, 4097, 4098, 8192,
		1 << 31, 1 << 32, 1<<32 + 1, 1 << 62, math.MaxInt - 1, math.MaxInt,
	}
}

// plain is a chain as a list, the oldest one first, that is searched from its
// beginning: it shares no way of working with chain.
type plain struct {
	size int
	row  []int
}

func (p *plain) has(n int) bool { return slices.Contains(p.row, n) }

func (p *plain) drop(n int) bool {
	at := slices.Index(p.row, n)
	if at < 0 {
		return false
	}
	p.row = slices.Delete(p.row, at, at+1)
	return true
}

func (p *plain) push(n int) bool {
	if n < 0 || n >= p.size {
		return false
	}
	p.drop(n)
	p.row = append(p.row, n)
	return true
}

func (p *plain) oldest() (int, bool) {
	if len(p.row) == 0 {
		return 0, false
	}
	return p.row[0], true
}

func (p *plain) newer(n int) (int, bool) {
	at := slices.Index(p.row, n)
	if at < 0 || at == len(p.row)-1 {
		return 0, false
	}
	return p.row[at+1], true
}

// tellsRow fails if a chain has other numbers than these, or another order.
func tellsRow(t *testing.T, c *chain.Chain, row []int) {
	t.Helper()
	if got := c.Len(); got != len(row) {
		t.Fatalf("Len: %d, not %d", got, len(row))
	}
	if got := slices.Collect(c.All()); !slices.Equal(got, row) {
		t.Fatalf("All: %d, not %d", got, row)
	}
	n, ok := c.Oldest()
	if len(row) == 0 {
		if n != 0 || ok {
			t.Fatalf("Oldest: %d, %t", n, ok)
		}
		return
	}
	for at, want := range row {
		if n != want || !ok {
			t.Fatalf("at place %d: %d, %t, not %d", at, n, ok, want)
		}
		n, ok = c.Newer(want)
	}
	if n != 0 || ok {
		t.Fatalf("newer than the newest one: %d, %t", n, ok)
	}
}

// isAs fails if a chain tells anything else than the plain one.
func isAs(t *testing.T, c *chain.Chain, p *plain) {
	t.Helper()
	tellsRow(t, c, p.row)
	in := make([]bool, p.size)
	for _, n := range p.row {
		in[n] = true
	}
	for n := range p.size {
		if c.Has(n) != in[n] {
			t.Fatalf("of size %d, Has(%d): %t", p.size, n, !in[n])
		}
		if in[n] {
			continue
		}
		if newer, ok := c.Newer(n); newer != 0 || ok {
			t.Fatalf("of size %d, Newer(%d), which isn't there: %d, %t", p.size, n, newer, ok)
		}
	}
	for _, n := range outside(p.size) {
		newer, ok := c.Newer(n)
		if c.Has(n) || newer != 0 || ok {
			t.Fatalf("of size %d, Has(%d): %t, Newer: %d, %t", p.size, n, c.Has(n), newer, ok)
		}
	}
}

// withNumbers is a chain to which these numbers were pushed, and the plain one.
func withNumbers(t *testing.T, size int, row []int) (*chain.Chain, *plain) {
	t.Helper()
	c, p := chain.New(size), &plain{size: size}
	for _, n := range row {
		if !c.Push(n) || !p.push(n) {
			t.Fatalf("of size %d, Push(%d): false", size, n)
		}
	}
	return c, p
}

// rising are the numbers below size for which in holds.
func rising(size int, in func(int) bool) []int {
	var out []int
	for n := range size {
		if in(n) {
			out = append(out, n)
		}
	}
	return out
}

// fillings are rows of numbers, each there once, to fill a chain with.
func fillings(size int) map[string][]int {
	all := func(int) bool { return true }
	falling := rising(size, all)
	slices.Reverse(falling)
	odd := rising(size, func(n int) bool { return n%2 == 1 })
	even := rising(size, func(n int) bool { return n%2 == 0 })
	return map[string][]int{
		"empty":         nil,
		"the first":     rising(size, func(n int) bool { return n == 0 }),
		"the last":      rising(size, func(n int) bool { return n == size-1 }),
		"rising":        rising(size, all),
		"falling":       falling,
		"odd, and even": slices.Concat(odd, even),
		"odd":           odd,
		"all but first": rising(size, func(n int) bool { return n != 0 }),
		"all but last":  rising(size, func(n int) bool { return n != size-1 }),
	}
}

func everyFilling(t *testing.T, f func(t *testing.T, c *chain.Chain, p *plain)) {
	for _, size := range sizes {
		for name, row := range fillings(size) {
			t.Run(strconv.Itoa(size)+" "+name, func(t *testing.T) {
				c, p := withNumbers(t, size, row)
				isAs(t, c, p)
				f(t, c, p)
			})
		}
	}
}
