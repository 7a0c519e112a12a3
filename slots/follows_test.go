package slots_test

import (
	"bytes"
	"testing"

	"gunny/api"
)

// Promise 9.4.

// What was put is told again and again, or ErrIO is, while others come and go.
func TestWhatWasPutIsToldOrErrIO(t *testing.T) {
	b := newPair(t, 5, mixed(4000, 20)...)
	next := steps(5)
	told, failed := 0, 0
	for at := range 1200 {
		if n := next() % 5; next()%2 == 0 {
			b.drop(n)
		} else {
			b.fill(at)
		}
		for n, want := range b.p.pages {
			if got, ok := b.s.Look(n); !ok || !bytes.Equal(got, want) {
				t.Fatalf("step %d, Look(%d): %d bytes, %t", at, n, len(got), ok)
			}
		}
		n := next() % 5
		want, in := b.p.pages[n]
		got, err := b.s.Page(n)
		_, wantErr := b.p.page(n)
		switch {
		case err != wantErr || in != (err != api.ErrNone):
			t.Fatalf("step %d, Page(%d): %v", at, n, err)
		case err == api.OK && bytes.Equal(got, want):
			told++
		case err == api.ErrIO && len(got) == 0:
			failed++
		case err != api.ErrNone || len(got) != 0:
			t.Fatalf("step %d, Page(%d): %d bytes, %v, or other ones", at, n, len(got), err)
		}
		b.tellsCounts()
	}
	if told == 0 || failed == 0 {
		t.Errorf("%d told, %d failed", told, failed)
	}
	b.isAs()
}

// A Put, whichever of its sectors fails, changes no slot in use.
func TestPutChangesNoSlotInUse(t *testing.T) {
	for gap := range 5 {
		for at := range 9 {
			b := newPair(t, 5, onlyAt(40+at)...)
			takeAll(b)
			b.drop(gap)
			n, err := b.s.Put(pattern(4096, 300))
			if at < 8 && (n != 0 || err != api.ErrIO) || at == 8 && (n != gap || err != api.OK) {
				t.Fatalf("slot %d, sector %d fails: %d, %v", gap, at, n, err)
			}
			for n := range 5 {
				if n == gap {
					continue
				}
				if got, ok := b.s.Look(n); !ok || !bytes.Equal(got, pattern(4096, 31*n+1)) {
					t.Errorf("Put into %d: slot %d has changed", gap, n)
				}
			}
		}
	}
}

// What is refused changes nothing, of slots in use or not.
func TestWhatIsRefusedChangesNothing(t *testing.T) {
	everyState(t, func(b *pair) {
		for _, size := range sizes {
			b.put(pattern(size, 4))
		}
		if b.p.many == len(b.p.pages) {
			b.fill(4)
		}
		for _, n := range outside(b.p.many) {
			if !b.p.in(n) {
				b.page(n)
				b.drop(n)
				b.look(n)
			}
		}
		b.tellsSame()
		b.isAs()
	})
}

func TestSlotsAreApart(t *testing.T) {
	list := mixed(30, 7)
	a, b, c := newPair(t, 3, list...), newPair(t, 3, list...), newPair(t, 3, list[1:]...)
	takeAll(a)
	b.fill(5)
	c.fill(6)
	a.drop(0)
	b.fill(7)
	c.page(0)
	a.isAs()
	b.isAs()
	c.isAs()
}

// TestEveryShortRow does every row of a few steps beside the plain slots.
func TestEveryShortRow(t *testing.T) {
	do := []func(b *pair){
		func(b *pair) { b.fill(1) },
		func(b *pair) { b.fill(2) },
		func(b *pair) { b.put(pattern(4095, 5)) },
		func(b *pair) { b.page(0) },
		func(b *pair) { b.page(1) },
		func(b *pair) { b.drop(0) },
		func(b *pair) { b.drop(1) },
		func(b *pair) { b.look(0) },
	}
	for _, choices := range [][]bool{nil, onlyAt(0), onlyAt(7), onlyAt(10), append(onlyAt(8), onlyAt(12)...)} {
		var row []int
		var follow func()
		follow = func() {
			b := newPair(t, 2, choices...)
			for _, step := range row {
				do[step](b)
			}
			b.isAs()
			if len(row) == 4 {
				return
			}
			for step := range do {
				row = append(row, step)
				follow()
				row = row[:len(row)-1]
			}
		}
		follow()
	}
}

// TestManySteps does a long row of steps, always the same one, beside the plain slots.
func TestManySteps(t *testing.T) {
	for _, many := range manies {
		b := newPair(t, many, mixed(3000, 25)...)
		next := steps(many)
		for at := range 1500 {
			oneStep(b, next)
			if at%200 == 0 {
				b.tellsSame()
			}
		}
		b.isAs()
	}
}

func oneStep(b *pair, next func() int) {
	n := next()%(b.p.many+2) - 1
	switch next() % 8 {
	case 0, 1, 2:
		b.fill(next() % 1000)
	case 3:
		b.put(pattern(4092+next()%8, next()%1000))
	case 4, 5:
		b.page(n)
	case 6:
		b.look(n)
	default:
		b.drop(n)
	}
	b.tellsCounts()
}
