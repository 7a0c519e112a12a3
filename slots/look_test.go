package slots_test

import (
	"bytes"
	"testing"

	"gunny/api"
)

// Promise 9.3.

func TestDropTwice(t *testing.T) {
	for _, many := range manies[1:] {
		b := newPair(t, many)
		takeAll(b)
		for _, n := range []int{0, many - 1, many / 2} {
			want := b.p.in(n)
			if got := b.s.Drop(n); got != want {
				t.Errorf("of %d, Drop(%d): %t", many, n, got)
			}
			b.p.drop(n)
			for range 2 {
				if b.s.Drop(n) {
					t.Errorf("of %d, Drop(%d) once more", many, n)
				}
			}
			b.tellsSame()
		}
		b.isAs()
	}
}

// A slot that is given back is in use no more, whoever asks, and is taken again.
func TestDropGivesBack(t *testing.T) {
	for n := range 4 {
		b := newPair(t, 4)
		takeAll(b)
		if !b.s.Drop(n) {
			t.Errorf("Drop(%d)", n)
		}
		b.p.drop(n)
		if b.s.In(n) || b.s.Used() != 3 {
			t.Errorf("In(%d) %t, Used %d", n, b.s.In(n), b.s.Used())
		}
		if got, err := b.s.Page(n); len(got) != 0 || err != api.ErrNone {
			t.Errorf("Page(%d): %d bytes, %v", n, len(got), err)
		}
		if got, ok := b.s.Look(n); len(got) != 0 || ok {
			t.Errorf("Look(%d): %d bytes, %t", n, len(got), ok)
		}
		if got, err := b.fill(60); got != n || err != api.OK {
			t.Errorf("Put behind Drop(%d): %d, %v", n, got, err)
		}
		b.isAs()
	}
}

func TestDropOfNone(t *testing.T) {
	everyState(t, func(b *pair) {
		for _, n := range append(outside(b.p.many), 0, 1, b.p.many-1) {
			if !b.p.in(n) && b.s.Drop(n) {
				b.Errorf("Drop(%d)", n)
			}
		}
		b.tellsSame()
		b.isAs()
	})
}

// Drop asks for no access: it is done while all fail.
func TestDropWhateverLuckSays(t *testing.T) {
	b := newPair(t, 2, append(allOf(16, false), allOf(9, true)...)...)
	takeAll(b)
	if !b.s.Drop(0) || !b.s.Drop(1) || b.s.Drop(1) {
		t.Error("Drop")
	}
	b.p.drop(0)
	b.p.drop(1)
	if b.s.Asked() != 16 || b.s.Failed() != 0 || b.s.Left() != 9 {
		t.Errorf("Asked %d, Failed %d, Left %d", b.s.Asked(), b.s.Failed(), b.s.Left())
	}
	b.isAs()
}

func TestLookWhateverLuckSays(t *testing.T) {
	b := newPair(t, 3, append(allOf(16, false), allOf(50, true)...)...)
	b.fill(4)
	b.fill(5)
	for range 60 {
		for n := range 2 {
			if got, ok := b.s.Look(n); !ok || !bytes.Equal(got, pattern(4096, 4+n)) {
				t.Fatalf("Look(%d): %d bytes, %t", n, len(got), ok)
			}
		}
		if got, ok := b.s.Look(2); ok || len(got) != 0 {
			t.Fatalf("Look(2): %d bytes, %t", len(got), ok)
		}
		if b.s.Asked() != 16 || b.s.Failed() != 0 || b.s.Left() != 50 {
			t.Fatalf("Asked %d, Failed %d, Left %d", b.s.Asked(), b.s.Failed(), b.s.Left())
		}
	}
	if err := b.page(1); err != api.ErrIO {
		t.Errorf("Page behind Look: %v", err)
	}
	b.isAs()
}

func TestLookOfNone(t *testing.T) {
	everyState(t, func(b *pair) {
		for _, n := range append(outside(b.p.many), 0, 1, b.p.many-1) {
			if b.p.in(n) {
				continue
			}
			if got, ok := b.s.Look(n); len(got) != 0 || ok {
				b.Errorf("Look(%d): %d bytes, %t", n, len(got), ok)
			}
		}
		b.tellsSame()
	})
}

// A page of 0 is told, though it is what a sector has that never was written.
func TestLookOfAPageOfZero(t *testing.T) {
	b := newPair(t, 2)
	b.put(make([]byte, 4096))
	if got, ok := b.s.Look(0); !ok || !bytes.Equal(got, make([]byte, 4096)) {
		t.Errorf("Look(0): %d bytes, %t", len(got), ok)
	}
	if got, ok := b.s.Look(1); ok || len(got) != 0 {
		t.Errorf("Look(1): %d bytes, %t", len(got), ok)
	}
	b.isAs()
}

func TestLookIsNewMemory(t *testing.T) {
	b := newPair(t, 3)
	takeAll(b)
	for n := range 3 {
		first, _ := b.s.Look(n)
		second, _ := b.s.Look(n)
		for i := range first {
			first[i] ^= 0xff
		}
		clear(first[:cap(first)])
		if !bytes.Equal(second, b.p.pages[n]) {
			t.Errorf("Look(%d) twice: one memory", n)
		}
		b.tellsSame()
	}
	got, _ := b.s.Look(2)
	b.drop(2)
	b.fill(9)
	if !bytes.Equal(got, pattern(4096, 31*2+1)) {
		t.Error("what was told has changed")
	}
	b.isAs()
}
