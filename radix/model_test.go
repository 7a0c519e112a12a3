package radix_test

import (
	"fmt"
	"maps"
	"math"
	"slices"
	"testing"

	"gunny/radix"
)

// edges are keys at which a digit, or the key, is the first or the last one of
// its kind.
var edges = []int{
	0, 1, 14, 15, 16, 17, 31, 32, 254, 255, 256, 257, 4094, 4095, 4096, 4097,
	32767, 32768, 61439, 61440, 65279, 65280, 65519, 65520, 65534, 65535,
}

// outside are numbers that are no keys.
var outside = []int{
	math.MinInt, math.MinInt + 1, -1 << 62, -1<<62 + 3, -1 << 32, -1<<32 + 3, -1 << 31, -1<<16 - 1, -1 << 16, -1<<16 + 3,
	-65535, -4096, -256, -17, -16, -15, -3, -2, -1,
	65536, 65537, 65536 + 3, 65536 + 20, 131071, 131072, 1 << 20, 1<<20 + 3, 1 << 31, 1 << 32, 1<<32 + 3, 1<<48 + 20, 1 << 62, 1<<62 + 3,
	math.MaxInt - 65535, math.MaxInt - 1, math.MaxInt,
}

// plain is a tree as a map, its nodes counted as different beginnings of its
// keys' digits as texts: it shares no way of working with radix.
type plain map[int]int

func (p plain) set(key, v int) bool {
	if key < 0 || key > 65535 {
		return false
	}
	p[key] = v
	return true
}

func (p plain) get(key int) (int, bool) {
	v, ok := p[key]
	return v, ok
}

func (p plain) drop(key int) (int, bool) {
	v, ok := p[key]
	delete(p, key)
	return v, ok
}

func (p plain) nodes() int {
	beginnings := map[string]bool{}
	for key := range p {
		text := fmt.Sprintf("%04x", key)
		for n := range 4 {
			beginnings[text[:n]] = true
		}
	}
	return len(beginnings)
}

// pair is a key and what it has.
type pair struct{ key, v int }

func (p plain) from(key int) []pair {
	var out []pair
	for _, k := range slices.Sorted(maps.Keys(p)) {
		if k >= key {
			out = append(out, pair{k, p[k]})
		}
	}
	return out
}

// told are all pairs that a From tells.
func told(r *radix.Tree[int], key int) []pair {
	var out []pair
	for k, v := range r.From(key) {
		out = append(out, pair{k, v})
	}
	return out
}

// isAs fails if a tree tells anything else than the plain one, of its keys,
// their neighbours, the edges, and what is no key.
func isAs(t *testing.T, r *radix.Tree[int], p plain) {
	t.Helper()
	if got := r.Len(); got != len(p) {
		t.Fatalf("Len: %d, not %d", got, len(p))
	}
	if got, want := r.Nodes(), p.nodes(); got != want {
		t.Fatalf("Nodes: %d, not %d", got, want)
	}
	row := p.from(math.MinInt)
	for _, key := range []int{math.MinInt, -1, 0} {
		if got := told(r, key); !slices.Equal(got, row) {
			t.Fatalf("From(%d): %d pairs, not %d, or others", key, len(got), len(row))
		}
	}
	for _, pr := range row {
		for _, key := range []int{pr.key - 1, pr.key, pr.key + 1} {
			getsAs(t, r, p, key)
		}
	}
	for _, key := range slices.Concat(edges, outside) {
		getsAs(t, r, p, key)
	}
}

func getsAs(t *testing.T, r *radix.Tree[int], p plain, key int) {
	t.Helper()
	got, ok := r.Get(key)
	if want, wantOK := p.get(key); got != want || ok != wantOK {
		t.Fatalf("Get(%d): %d, %t, not %d, %t", key, got, ok, want, wantOK)
	}
}

// isAsEverywhere fails if a tree tells anything else than the plain one, of
// any key.
func isAsEverywhere(t *testing.T, r *radix.Tree[int], p plain) {
	t.Helper()
	isAs(t, r, p)
	for key := -2; key < 65536+2; key++ {
		getsAs(t, r, p, key)
	}
}

// withKeys is a tree in which these keys have 1 more than ten times what they
// are, and the plain one.
func withKeys(t *testing.T, keys ...int) (*radix.Tree[int], plain) {
	t.Helper()
	r, p := radix.New[int](), plain{}
	for _, key := range keys {
		if v := key*10 + 1; !r.Set(key, v) || !p.set(key, v) {
			t.Fatalf("Set(%d): false", key)
		}
	}
	return r, p
}

// every is the keys from first on, step apart.
func every(first, step int) []int {
	var out []int
	for key := first; key <= 65535; key += step {
		out = append(out, key)
	}
	return out
}

// fillings are keys to fill a tree with.
func fillings() map[string][]int {
	falling := every(0, 1)
	slices.Reverse(falling)
	return map[string][]int{
		"none":                nil,
		"the first":           {0},
		"the last":            {65535},
		"one between":         {0x4b2d},
		"the edges":           edges,
		"all":                 falling,
		"all but the first":   every(1, 1),
		"a last node":         {0x3450, 0x3451, 0x3452, 0x3453, 0x3454, 0x3455, 0x3456, 0x3457, 0x3458, 0x3459, 0x345a, 0x345b, 0x345c, 0x345d, 0x345e, 0x345f},
		"one of each three":   every(0, 16),
		"one of each two":     every(0, 256),
		"one of each one":     every(0, 4096),
		"last of each three":  every(15, 16),
		"last of each two":    every(255, 256),
		"last of each one":    every(4095, 4096),
		"each seventeenth":    every(3, 17),
		"each thousand third": every(77, 1003),
	}
}

func everyFilling(t *testing.T, f func(t *testing.T, r *radix.Tree[int], p plain)) {
	for name, keys := range fillings() {
		t.Run(name, func(t *testing.T) {
			r, p := withKeys(t, keys...)
			f(t, r, p)
		})
	}
}
