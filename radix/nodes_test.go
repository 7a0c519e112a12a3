package radix_test

import (
	"testing"

	"gunny/radix"
)

// Promise 4.2: Nodes.

func TestExample(t *testing.T) {
	r := radix.New[string]()
	if !r.Set(3, "a") || !r.Set(20, "b") {
		t.Fatal("Set: false")
	}
	if r.Len() != 2 || r.Nodes() != 5 {
		t.Fatalf("%d keys, %d nodes", r.Len(), r.Nodes())
	}
}

func TestNodesOfTwoKeys(t *testing.T) {
	cases := []struct {
		name      string
		one, more int
		want      int
	}{
		{"the key itself", 0x1234, 0x1234, 4},
		{"three digits shared", 0x1234, 0x1235, 4},
		{"three digits shared, the first and the last key", 0xfff0, 0xffff, 4},
		{"two digits shared", 0x1234, 0x1244, 5},
		{"two digits shared, nought and sixteen", 0, 16, 5},
		{"one digit shared", 0x1234, 0x1334, 6},
		{"one digit shared, nought and 256", 0, 256, 6},
		{"no digit shared", 0x1234, 0x2234, 7},
		{"no digit shared, nought and 4096", 0, 4096, 7},
		{"no digit shared, the first and the last key", 0, 65535, 7},
	}
	for _, c := range cases {
		for _, keys := range [][]int{{c.one, c.more}, {c.more, c.one}} {
			r, p := withKeys(t, keys...)
			if got := r.Nodes(); got != c.want {
				t.Errorf("%s: %d nodes, not %d", c.name, got, c.want)
			}
			isAs(t, r, p)
			r.Drop(keys[0])
			p.drop(keys[0])
			isAs(t, r, p)
		}
	}
}

func TestNodesOfAllKeys(t *testing.T) {
	r := radix.New[struct{}]()
	for key := range 65536 {
		r.Set(key, struct{}{})
		// A node is there from its first key on.
		want := 1 + (key/4096 + 1) + (key/256 + 1) + (key/16 + 1)
		if got := r.Nodes(); got != want {
			t.Fatalf("keys to %d: %d nodes, not %d", key, got, want)
		}
	}
	if got := r.Nodes(); got != 1+16+256+4096 {
		t.Fatalf("all keys: %d nodes", got)
	}
	for key := range 65536 {
		r.Drop(key)
		// A node is there as long as its last key has something.
		want := 1 + (16 - (key+1)/4096) + (256 - (key+1)/256) + (4096 - (key+1)/16)
		if key == 65535 {
			want = 0
		}
		if got := r.Nodes(); got != want {
			t.Fatalf("keys from %d on: %d nodes, not %d", key+1, got, want)
		}
	}
}

// Asking makes no nodes, nor does what is refused.
func TestAskingMakesNoNodes(t *testing.T) {
	r, p := withKeys(t, 0x1234)
	for _, key := range []int{0x1235, 0x1244, 0x1334, 0x2234, -1, 65536} {
		r.Get(key)
		r.Drop(key)
		for range r.From(key) {
		}
		if r.Nodes() != 4 {
			t.Fatalf("asked for %d: %d nodes", key, r.Nodes())
		}
	}
	isAs(t, r, p)
}
