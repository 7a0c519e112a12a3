package bits_test

import (
	"math"
	"slices"
	"strconv"
	"testing"

	"gunny/bits"
)

// sizes are those that the chapter names, those at which a word ends, and one amidst.
var sizes = []int{0, 1, 2, 3, 63, 64, 65, 127, 128, 129, 1000, 4095, 4096}

// outside are numbers that no set of that size may have.
func outside(size int) []int {
	return []int{
		math.MinInt, math.MinInt + 1, math.MinInt + 63, math.MinInt + 64, -1 << 62, -1 << 32, -1 << 31,
		-4097, -4096, -4095, -128, -65, -64, -63, -2, -1,
		size, size + 1, size + 63, size + 64, size + 4096, 4096, 4097, 8192,
		1 << 31, 1 << 32, 1 << 62, math.MaxInt - 64, math.MaxInt - 63, math.MaxInt - 1, math.MaxInt,
	}
}

// plain is a set as a list of bools, so that it shares no way of working with bits.
type plain []bool

func (p plain) has(n int) bool { return n >= 0 && n < len(p) && p[n] }

func (p plain) put(n int) bool {
	if n < 0 || n >= len(p) || p[n] {
		return false
	}
	p[n] = true
	return true
}

func (p plain) drop(n int) bool {
	if !p.has(n) {
		return false
	}
	p[n] = false
	return true
}

func (p plain) all() []int {
	var out []int
	for n, in := range p {
		if in {
			out = append(out, n)
		}
	}
	return out
}

func (p plain) first() (int, bool) {
	if at := slices.Index(p, false); at >= 0 {
		return at, true
	}
	return 0, false
}

func (p plain) take() (int, bool) {
	n, ok := p.first()
	return n, ok && p.put(n)
}

// isAs fails if a set tells anything else than the plain one.
func isAs(t *testing.T, s *bits.Set, p plain) {
	t.Helper()
	if got := s.Size(); got != len(p) {
		t.Fatalf("Size: %d, not %d", got, len(p))
	}
	want := p.all()
	if got := s.Len(); got != len(want) {
		t.Fatalf("Len: %d, not %d", got, len(want))
	}
	if got := slices.Collect(s.All()); !slices.Equal(got, want) {
		t.Fatalf("All: %d, not %d", got, want)
	}
	for n := range p {
		if s.Has(n) != p[n] {
			t.Fatalf("Has(%d): %t", n, !p[n])
		}
	}
	for _, n := range outside(len(p)) {
		if s.Has(n) {
			t.Fatalf("of size %d, Has(%d)", len(p), n)
		}
	}
	n, ok := s.First()
	if wantN, wantOK := p.first(); n != wantN || ok != wantOK {
		t.Fatalf("First: %d, %t, not %d, %t", n, ok, wantN, wantOK)
	}
}

// withNumbers is a set of a size that has each number for which in holds, and the plain one.
func withNumbers(t *testing.T, size int, in func(int) bool) (*bits.Set, plain) {
	t.Helper()
	s, p := bits.New(size), make(plain, size)
	for n := range size {
		if in(n) && (!s.Put(n) || !p.put(n)) {
			t.Fatalf("of size %d, Put(%d): false", size, n)
		}
	}
	return s, p
}

// fillings are ways to fill a set: with nothing, with everything, and between.
func fillings(size int) map[string]func(int) bool {
	return map[string]func(int) bool{
		"empty":         func(int) bool { return false },
		"full":          func(int) bool { return true },
		"the first":     func(n int) bool { return n == 0 },
		"the last":      func(n int) bool { return n == size-1 },
		"all but first": func(n int) bool { return n != 0 },
		"all but last":  func(n int) bool { return n != size-1 },
		"thirds":        func(n int) bool { return n%3 == 1 },
		"the lower":     func(n int) bool { return n < size/2 },
		"the upper":     func(n int) bool { return n >= size/2 },
	}
}

func everyFilling(t *testing.T, f func(t *testing.T, s *bits.Set, p plain)) {
	for _, size := range sizes {
		for name, in := range fillings(size) {
			t.Run(strconv.Itoa(size)+" "+name, func(t *testing.T) {
				s, p := withNumbers(t, size, in)
				isAs(t, s, p)
				f(t, s, p)
			})
		}
	}
}
