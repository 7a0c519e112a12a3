package radix_test

import (
	"errors"
	"slices"
	"testing"

	"gunny/radix"
)

// Promise 4.1.

func TestNewHasNothing(t *testing.T) {
	r := radix.New[int]()
	if r == nil {
		t.Fatal("New: nil")
	}
	isAsEverywhere(t, r, plain{})
}

func TestTreesAreApart(t *testing.T) {
	a, p := withKeys(t, 3, 20)
	b, q := withKeys(t, 3, 4096)
	a.Drop(3)
	p.drop(3)
	b.Set(20, 7)
	q.set(20, 7)
	isAs(t, a, p)
	isAs(t, b, q)
}

func TestSetGetDropOfOneKey(t *testing.T) {
	for _, key := range edges {
		r, p := radix.New[int](), plain{}
		for _, v := range []int{-8, 0, 8} {
			if !r.Set(key, v) {
				t.Fatalf("Set(%d, %d): false", key, v)
			}
			p.set(key, v)
			isAs(t, r, p)
		}
		if v, ok := r.Drop(key); v != 8 || !ok {
			t.Fatalf("Drop(%d): %d, %t", key, v, ok)
		}
		isAs(t, r, plain{})
		if v, ok := r.Drop(key); v != 0 || ok {
			t.Fatalf("Drop(%d) once more: %d, %t", key, v, ok)
		}
		isAs(t, r, plain{})
		if !r.Set(key, 9) {
			t.Fatalf("Set(%d), which was dropped: false", key)
		}
		isAs(t, r, plain{key: 9})
	}
}

func TestEachKeyHasItsOwn(t *testing.T) {
	everyFilling(t, isAsEverywhere)
}

func TestSetAgain(t *testing.T) {
	everyFilling(t, func(t *testing.T, r *radix.Tree[int], p plain) {
		for n, pr := range p.from(0) {
			if n%3 == 1 {
				continue
			}
			if !r.Set(pr.key, n-5) {
				t.Fatalf("Set(%d) again: false", pr.key)
			}
			p.set(pr.key, n-5)
		}
		isAs(t, r, p)
	})
}

// What is dropped is told, and the others keep what they have, in whatever
// order keys are dropped.
func TestDropOneByOne(t *testing.T) {
	everyFilling(t, func(t *testing.T, r *radix.Tree[int], p plain) {
		row := p.from(0)
		for n := range row {
			// Scattered over the row; a key that comes once more has nothing then.
			pr := row[(n*40503)%len(row)]
			got, ok := r.Drop(pr.key)
			if want, wantOK := p.drop(pr.key); got != want || ok != wantOK {
				t.Fatalf("Drop(%d): %d, %t, not %d, %t", pr.key, got, ok, want, wantOK)
			}
			if r.Len() != len(p) {
				t.Fatalf("Drop(%d), Len: %d, not %d", pr.key, r.Len(), len(p))
			}
			if left := len(row) - n; left == len(row)/2 || left == len(row)/16 || left < 3 {
				isAs(t, r, p)
			}
		}
		for _, pr := range row {
			r.Drop(pr.key)
			p.drop(pr.key)
		}
		isAsEverywhere(t, r, plain{})
	})
}

func TestDropOfAKeyThatHasNothing(t *testing.T) {
	everyFilling(t, func(t *testing.T, r *radix.Tree[int], p plain) {
		for key := range 65536 {
			if _, ok := p.get(key); ok {
				continue
			}
			if v, ok := r.Drop(key); v != 0 || ok {
				t.Fatalf("Drop(%d): %d, %t", key, v, ok)
			}
		}
		isAs(t, r, p)
	})
}

func TestNumbersThatAreNoKeys(t *testing.T) {
	everyFilling(t, func(t *testing.T, r *radix.Tree[int], p plain) {
		for _, key := range outside {
			if r.Set(key, 5) {
				t.Errorf("Set(%d): true", key)
			}
			if v, ok := r.Get(key); v != 0 || ok {
				t.Errorf("Get(%d): %d, %t", key, v, ok)
			}
			if v, ok := r.Drop(key); v != 0 || ok {
				t.Errorf("Drop(%d): %d, %t", key, v, ok)
			}
		}
		isAs(t, r, p)
	})
}

func TestNilTree(t *testing.T) {
	var r *radix.Tree[int]
	for _, key := range slices.Concat(edges, outside) {
		if r.Set(key, 5) {
			t.Errorf("Set(%d): true", key)
		}
		if v, ok := r.Get(key); v != 0 || ok {
			t.Errorf("Get(%d): %d, %t", key, v, ok)
		}
		if v, ok := r.Drop(key); v != 0 || ok {
			t.Errorf("Drop(%d): %d, %t", key, v, ok)
		}
		seq := r.From(key)
		if seq == nil {
			t.Fatalf("From(%d): nil", key)
		}
		for k, v := range seq {
			t.Errorf("From(%d): %d, %d", key, k, v)
		}
	}
	if r.Len() != 0 || r.Nodes() != 0 {
		t.Errorf("Len %d, Nodes %d", r.Len(), r.Nodes())
	}
}

// A zero thing is something, in trees of any type.
func TestZeroThings(t *testing.T) {
	zeroThing(t, func(v int) bool { return v == 0 })
	zeroThing(t, func(v bool) bool { return !v })
	zeroThing(t, func(v string) bool { return v == "" })
	zeroThing(t, func(v float64) bool { return v == 0 })
	zeroThing(t, func(v struct{}) bool { return v == struct{}{} })
	zeroThing(t, func(v [0]int) bool { return v == [0]int{} })
	zeroThing(t, func(v [300]int) bool { return v == [300]int{} })
	zeroThing(t, func(v *int) bool { return v == nil })
	zeroThing(t, func(v []byte) bool { return v == nil })
	zeroThing(t, func(v map[string]int) bool { return v == nil })
	zeroThing(t, func(v func()) bool { return v == nil })
	zeroThing(t, func(v chan int) bool { return v == nil })
	zeroThing(t, func(v any) bool { return v == nil })
	zeroThing(t, func(v error) bool { return v == nil })
	zeroThing(t, func(v *radix.Tree[int]) bool { return v == nil })
}

func zeroThing[V any](t *testing.T, isZero func(V) bool) {
	t.Helper()
	var zero V
	r := radix.New[V]()
	for n, key := range []int{0, 20, 65535} {
		if v, ok := r.Get(key); !isZero(v) || ok {
			t.Fatalf("%T: Get(%d) of nothing: %v, %t", zero, key, v, ok)
		}
		if !r.Set(key, zero) || r.Len() != n+1 {
			t.Fatalf("%T: Set(%d), Len %d", zero, key, r.Len())
		}
		if v, ok := r.Get(key); !isZero(v) || !ok {
			t.Fatalf("%T: Get(%d): %v, %t", zero, key, v, ok)
		}
	}
	many := 0
	for _, v := range r.From(0) {
		if many++; !isZero(v) {
			t.Fatalf("%T: From: %v", zero, v)
		}
	}
	if many != 3 || r.Nodes() != 8 {
		t.Fatalf("%T: %d from 0 on, %d nodes", zero, many, r.Nodes())
	}
	for n, key := range []int{20, 65535, 0} {
		if v, ok := r.Drop(key); !isZero(v) || !ok || r.Len() != 2-n {
			t.Fatalf("%T: Drop(%d): %v, %t, Len %d", zero, key, v, ok, r.Len())
		}
		if v, ok := r.Drop(key); !isZero(v) || ok || r.Len() != 2-n {
			t.Fatalf("%T: Drop(%d) once more: %v, %t, Len %d", zero, key, v, ok, r.Len())
		}
	}
	if r.Nodes() != 0 {
		t.Fatalf("%T: %d nodes", zero, r.Nodes())
	}
}

// Things that are values are copied: neither who set one nor who got one
// shares it with the tree.
func TestThingsAreValues(t *testing.T) {
	type thing struct {
		name string
		row  [3]int
	}
	r := radix.New[thing]()
	v := thing{"a", [3]int{1, 2, 3}}
	want := v
	r.Set(20, v)
	r.Set(21, v)
	v.name, v.row[0] = "b", 9
	got, _ := r.Get(20)
	if got != want {
		t.Fatalf("Get: %v", got)
	}
	got.row[1] = 9
	for _, told := range r.From(0) {
		told.row[2] = 9
	}
	if got, ok := r.Get(20); got != want || !ok {
		t.Fatalf("Get: %v", got)
	}
	r.Set(20, v)
	if got, ok := r.Drop(21); got != want || !ok {
		t.Fatalf("Drop: %v", got)
	}
}

// Things that lead elsewhere are told themselves.
func TestThingsAreTheVeryOnes(t *testing.T) {
	one, other := new(int), new(int)
	r := radix.New[*int]()
	r.Set(5, one)
	r.Set(6, other)
	if got, ok := r.Get(5); got != one || !ok {
		t.Error("Get(5)")
	}
	if got, ok := r.Drop(6); got != other || !ok {
		t.Error("Drop(6)")
	}
	fault := errors.New("fault")
	e := radix.New[error]()
	e.Set(5, fault)
	if got, ok := e.Get(5); got != fault || !ok {
		t.Error("Get(5) of errors")
	}
}
