package handle_test

import (
	"testing"

	"gunny/api"
	"gunny/handle"
)

// Promises 19.1 and 19.2: a nil table has none.

func TestNilMake(t *testing.T) {
	var none *handle.Table
	for _, p := range edges() {
		if h, err := none.Make(p); h != 0 || err != api.ErrNoMem {
			t.Fatalf("Make(%v): %d, %v", p, h, err)
		}
	}
	for _, p := range noPlaces() {
		if h, err := none.Make(p); h != 0 || err != api.ErrArg {
			t.Fatalf("Make(%v): %d, %v", p, h, err)
		}
	}
}

func TestNilHasNone(t *testing.T) {
	var none *handle.Table
	numbers := noHandles()
	for h := range 520 {
		numbers = append(numbers, h)
	}
	for _, h := range numbers {
		if p, ok := none.Get(h); p != (handle.Place{}) || ok {
			t.Fatalf("Get(%d): %v, %t", h, p, ok)
		}
		if p, ok := none.Drop(h); p != (handle.Place{}) || ok {
			t.Fatalf("Drop(%d): %v, %t", h, p, ok)
		}
		if none.Set(h, handle.Place{Len: 1}) || none.Set(h, handle.Place{}) {
			t.Fatalf("Set(%d): true", h)
		}
		if l := none.Of(h); len(l) != 0 {
			t.Fatalf("Of(%d): %v", h, l)
		}
	}
	if many := none.Len(); many != 0 {
		t.Fatalf("Len: %d", many)
	}
}
