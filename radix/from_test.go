package radix_test

import (
	"math"
	"slices"
	"testing"

	"gunny/radix"
)

// Promise 4.2: From.

func TestFromEachBeginning(t *testing.T) {
	everyFilling(t, func(t *testing.T, r *radix.Tree[int], p plain) {
		row := p.from(0)
		keys := slices.Concat(edges, outside, every(0, 9973))
		for n := 0; n < len(row); n += len(row)/50 + 1 {
			keys = append(keys, row[n].key-1, row[n].key, row[n].key+1)
		}
		for _, key := range keys {
			at, _ := slices.BinarySearchFunc(row, key, func(pr pair, key int) int {
				if pr.key < key {
					return -1
				}
				return 1
			})
			if got := told(r, key); !slices.Equal(got, row[at:]) {
				t.Fatalf("From(%d): %d pairs, not %d, or others", key, len(got), len(row)-at)
			}
		}
		isAs(t, r, p)
	})
}

func TestFromOfFewKeys(t *testing.T) {
	r, _ := withKeys(t, 65535, 20, 3, 4096)
	all := []pair{{3, 31}, {20, 201}, {4096, 40961}, {65535, 655351}}
	cases := []struct{ key, without int }{
		{math.MinInt, 0}, {-65536, 0}, {-1, 0}, {0, 0}, {2, 0}, {3, 0},
		{4, 1}, {15, 1}, {16, 1}, {19, 1}, {20, 1},
		{21, 2}, {31, 2}, {32, 2}, {256, 2}, {4095, 2}, {4096, 2},
		{4097, 3}, {8192, 3}, {61440, 3}, {65534, 3}, {65535, 3},
		{65536, 4}, {65537, 4}, {1 << 32, 4}, {math.MaxInt - 1, 4}, {math.MaxInt, 4},
	}
	for _, c := range cases {
		if got := told(r, c.key); !slices.Equal(got, all[c.without:]) {
			t.Errorf("From(%d): %d, not %d", c.key, got, all[c.without:])
		}
	}
}

func TestFromOfNothing(t *testing.T) {
	r := radix.New[int]()
	for _, key := range slices.Concat(edges, outside) {
		if got := told(r, key); got != nil {
			t.Errorf("From(%d): %d", key, got)
		}
	}
}

func TestFromIsStopped(t *testing.T) {
	r, p := withKeys(t, edges...)
	for want := range edges {
		var got []pair
		r.From(0)(func(k, v int) bool {
			got = append(got, pair{k, v})
			return len(got) <= want
		})
		if !slices.Equal(got, p.from(0)[:want+1]) {
			t.Fatalf("stopped at the one behind %d: %d", want, got)
		}
	}
	for k := range r.From(17) {
		if k != 17 {
			t.Fatalf("From(17): %d first", k)
		}
		break
	}
	isAs(t, r, p)
}

// Whoever ranges once more begins anew, also behind a range that was stopped.
func TestFromTwice(t *testing.T) {
	r, p := withKeys(t, 3, 20, 65535)
	seq := r.From(4)
	for range seq {
		break
	}
	for range 2 {
		var got []pair
		for k, v := range seq {
			got = append(got, pair{k, v})
		}
		if !slices.Equal(got, p.from(4)) {
			t.Fatalf("From(4): %d", got)
		}
	}
}

func TestFromWithinFrom(t *testing.T) {
	r, p := withKeys(t, 3, 20, 300, 65535)
	var got []pair
	for k := range r.From(0) {
		for k, v := range r.From(k + 1) {
			got = append(got, pair{k, v})
		}
	}
	want := slices.Concat(p.from(4), p.from(21), p.from(301))
	if !slices.Equal(got, want) {
		t.Fatalf("%d, not %d", got, want)
	}
}

// What is told is what stands when it is asked for.
func TestFromKnowsTheTree(t *testing.T) {
	r, p := withKeys(t, 3, 20)
	seq := r.From(4)
	for _, key := range []int{0, 21, 65535} {
		r.Set(key, key)
		p.set(key, key)
	}
	r.Drop(20)
	p.drop(20)
	var got []pair
	for k, v := range seq {
		got = append(got, pair{k, v})
	}
	if !slices.Equal(got, p.from(4)) {
		t.Fatalf("%d, not %d", got, p.from(4))
	}
}

func TestDropWhileFrom(t *testing.T) {
	everyFilling(t, func(t *testing.T, r *radix.Tree[int], p plain) {
		var got []pair
		for k, v := range r.From(-1) {
			got = append(got, pair{k, v})
			if dropped, ok := r.Drop(k); dropped != v || !ok {
				t.Fatalf("Drop(%d): %d, %t", k, dropped, ok)
			}
		}
		if !slices.Equal(got, p.from(0)) {
			t.Fatalf("%d pairs, not %d, or others", len(got), len(p))
		}
		isAs(t, r, plain{})
	})
}

// A range in which keys are set, and dropped, tells rising keys that have
// something then, and comes to an end.
func TestSetWhileFrom(t *testing.T) {
	r, _ := withKeys(t, 0)
	last, many := -1, 0
	for k, v := range r.From(0) {
		if k <= last || v != k*10+1 {
			t.Fatalf("behind %d: %d, %d", last, k, v)
		}
		last = k
		many++
		r.Set(k+1, (k+1)*10+1)
		r.Set(k+2, -1)
		r.Drop(k + 2)
		r.Set(max(k-1, 0), -1)
	}
	if many != 65536 {
		t.Fatalf("%d keys told", many)
	}
}
