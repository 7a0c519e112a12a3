package handle_test

import (
	"slices"
	"testing"

	"gunny/handle"
)

// Promise 19.2: Len and Of

func (b *pair) long() {
	b.Helper()
	if got := b.t.Len(); got != len(b.l) {
		b.Fatalf("Len: %d, not %d", got, len(b.l))
	}
}

func TestLen(t *testing.T) {
	b := newPair(t, 0)
	b.long()
	for n := range 514 {
		b.make(placed(n))
		b.long()
	}
	for n := range 514 {
		b.drop(n*5%512 + 1)
		b.long()
		b.drop(n*5%512 + 1)
		b.long()
	}
}

func TestLenOfEachFilling(t *testing.T) {
	for name, f := range fillings() {
		b := newPair(t, f[0], f[1:]...)
		if got, want := b.t.Len(), f[0]-(len(f)-1); got != want {
			t.Errorf("%s: %d, not %d", name, got, want)
		}
	}
}

// in is a table whose handles, from 1 on, stand for places in these zspages.
func in(t *testing.T, pages ...int) *pair {
	t.Helper()
	b := newPair(t, 0)
	for at, page := range pages {
		b.make(handle.Place{Page: page, Obj: at % 256, Len: 1 + at})
	}
	return b
}

func is(t *testing.T, b *pair, page int, want ...int) {
	t.Helper()
	if got := b.t.Of(page); !slices.Equal(got, want) {
		t.Fatalf("Of(%d): %v, not %v", page, got, want)
	}
}

func TestOf(t *testing.T) {
	b := in(t, 7, 0, 7, 4095, 7, 0)
	is(t, b, 7, 1, 3, 5)
	is(t, b, 0, 2, 6)
	is(t, b, 4095, 4)
	is(t, b, 1)
	is(t, b, 6)
	is(t, b, 4094)
	b.tellsEach()
}

func TestOfBehindASet(t *testing.T) {
	b := in(t, 7, 0, 7, 4095, 7, 0)
	b.set(4, handle.Place{Page: 7, Len: 1})
	is(t, b, 7, 1, 3, 4, 5)
	is(t, b, 4095)
	b.set(1, handle.Place{Page: 3, Len: 1})
	is(t, b, 7, 3, 4, 5)
	is(t, b, 3, 1)
	b.set(3, handle.Place{Page: 7, Obj: 9, Len: 9})
	is(t, b, 7, 3, 4, 5)
	b.tellsEach()
}

func TestOfBehindADrop(t *testing.T) {
	b := in(t, 7, 0, 7, 4095, 7, 0)
	b.drop(3)
	is(t, b, 7, 1, 5)
	b.drop(4)
	is(t, b, 4095)
	b.drop(1)
	b.drop(5)
	is(t, b, 7)
	b.make(handle.Place{Page: 0, Len: 1})
	is(t, b, 0, 1, 2, 6)
	b.tellsEach()
}

// Handles that aren't in use are in no zspage, not in the first one either.
func TestOfTheFirstZspage(t *testing.T) {
	is(t, newPair(t, 0), 0)
	b := in(t, 5, 0, 5)
	is(t, b, 0, 2)
	b.drop(2)
	is(t, b, 0)
	b.drop(1)
	b.drop(3)
	is(t, b, 0)
}

func TestOfAll(t *testing.T) {
	for _, page := range []int{0, 1, 4095} {
		b := in(t, slices.Repeat([]int{page}, 512)...)
		var all []int
		for h := 1; h <= 512; h++ {
			all = append(all, h)
		}
		is(t, b, page, all...)
		b.tellsEach()
	}
}

func TestOfWhatIsNoZspage(t *testing.T) {
	everyFilling(t, func(b *pair) {
		b.changesNothing(func() {
			for _, page := range noPages() {
				is(b.T, b, page)
			}
		})
	})
}

func TestOfEachFilling(t *testing.T) {
	everyFilling(t, func(b *pair) {
		b.tellsEach()
	})
}

// What is told is new memory, which the table neither keeps nor changes.
func TestOfIsNew(t *testing.T) {
	b := in(t, 7, 7, 3, 7)
	first, second := b.t.Of(7), b.t.Of(7)
	first = append(first, 77)
	clear(first[:cap(first)])
	if !slices.Equal(second, []int{1, 2, 4}) {
		t.Fatalf("another one has changed: %v", second)
	}
	b.tellsEach()
	b.make(handle.Place{Page: 7, Len: 1})
	b.set(1, handle.Place{Page: 8, Len: 1})
	b.drop(2)
	b.t.Of(8)
	if !slices.Equal(second, []int{1, 2, 4}) {
		t.Fatalf("later calls have changed it: %v", second)
	}
	b.tellsEach()
}
