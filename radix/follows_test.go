package radix_test

import (
	"testing"

	"gunny/radix"
)

// Promise 4.3.

// step sets a key, or drops it, in a tree and in the plain one, and fails if
// they answer otherwise.
func step(t *testing.T, r *radix.Tree[int], p plain, key, v int, drop bool) {
	t.Helper()
	if drop {
		got, ok := r.Drop(key)
		if want, wantOK := p.drop(key); got != want || ok != wantOK {
			t.Fatalf("Drop(%d): %d, %t, not %d, %t", key, got, ok, want, wantOK)
		}
		return
	}
	if got, want := r.Set(key, v), p.set(key, v); got != want {
		t.Fatalf("Set(%d, %d): %t, not %t", key, v, got, want)
	}
}

// Every row of four steps at keys that share from no digit to three with
// another one, and at one that is none.
func TestEveryShortRowOfSteps(t *testing.T) {
	keys := []int{0x1230, 0x123f, 0x1290, 0x1830, 0xf230, 65536}
	kinds := 2 * len(keys)
	for row := range kinds * kinds * kinds * kinds {
		r, p := radix.New[int](), plain{}
		for n := range 4 {
			kind := row % kinds
			row /= kinds
			step(t, r, p, keys[kind/2], n+1, kind%2 == 1)
			if r.Len() != len(p) || r.Nodes() != p.nodes() {
				t.Fatalf("Len %d, not %d; Nodes %d, not %d", r.Len(), len(p), r.Nodes(), p.nodes())
			}
			for _, key := range keys {
				getsAs(t, r, p, key)
			}
		}
		if got := told(r, 0); len(got) != len(p) {
			t.Fatalf("From(0): %d pairs, not %d", len(got), len(p))
		}
	}
}

// Long rows of steps, at keys that lie close together, and far from each
// other, more of them sets first, and more of them drops then.
func TestLongRowsOfSteps(t *testing.T) {
	spreads := map[string]func(n uint32) int{
		"close":     func(n uint32) int { return int(n%40) + 4080 },
		"scattered": func(n uint32) int { return int(n%70)*937 - 10 },
		"anywhere":  func(n uint32) int { return int(n % 65540) },
	}
	for name, spread := range spreads {
		t.Run(name, func(t *testing.T) {
			r, p := radix.New[int](), plain{}
			seed := uint32(17)
			draw := func() uint32 {
				seed = seed*1664525 + 1013904223
				return seed >> 8
			}
			for n := range 6000 {
				drops := uint32(1 + n/1000%3)
				step(t, r, p, spread(draw()), n, draw()%4 < drops)
				if n%200 == 199 {
					isAs(t, r, p)
				}
			}
			isAsEverywhere(t, r, p)
			for key := range 65536 {
				step(t, r, p, key, 0, true)
			}
			isAsEverywhere(t, r, plain{})
		})
	}
}

// A thing that is set stays through all that is done at other keys.
func TestOtherKeysChangeNothing(t *testing.T) {
	for _, key := range []int{0, 0x1234, 65535} {
		r, p := withKeys(t, key)
		for other := range 65536 {
			if other == key {
				continue
			}
			r.Set(other, -1)
			getsAs(t, r, p, key)
			r.Drop(other)
			getsAs(t, r, p, key)
			if r.Len() != 1 || r.Nodes() != 4 {
				t.Fatalf("with %d alone, Set and Drop of %d: Len %d, Nodes %d", key, other, r.Len(), r.Nodes())
			}
		}
		isAs(t, r, p)
	}
}

func TestNoNodesWithoutKeys(t *testing.T) {
	everyFilling(t, func(t *testing.T, r *radix.Tree[int], p plain) {
		for range 2 {
			for _, pr := range p.from(0) {
				if r.Nodes() < 4 {
					t.Fatalf("%d keys, %d nodes", r.Len(), r.Nodes())
				}
				r.Drop(pr.key)
			}
			if r.Len() != 0 || r.Nodes() != 0 {
				t.Fatalf("%d keys, %d nodes", r.Len(), r.Nodes())
			}
			for _, pr := range p.from(0) {
				r.Set(pr.key, pr.v)
			}
		}
		isAs(t, r, p)
	})
}
