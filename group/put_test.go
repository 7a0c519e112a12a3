package group_test

import (
	"math"
	"testing"

	"gunny/group"
)

// Promise 18.1: Put and Drop

func TestPutOfANewNumber(t *testing.T) {
	for _, n := range []int{0, 1, 63, 64, 255, 256, 4094, 4095} {
		for many := range 7 {
			for used := range many + 1 {
				b := newPair(t)
				b.put(n, used, many)
				b.tellsEach()
				b.dropsEach()
			}
		}
	}
}

// A number that the book has already has these instead.
func TestPutInstead(t *testing.T) {
	for many := range 7 {
		for used := range many + 1 {
			b := newPair(t, entry{2, 1, 4}, entry{7, 3, 5}, entry{9, 4, 6})
			b.put(7, used, many)
			b.tellsEach()
			b.put(7, used, many)
			b.tellsEach()
			b.put(7, 3, 5)
			b.tellsEach()
			b.dropsEach()
		}
	}
}

func TestPutInsteadOfEach(t *testing.T) {
	everyFilling(t, func(b *pair) {
		for at, n := range b.p.numbers() {
			b.put(n, at%5, at%5+at%4)
		}
		b.tellsEach()
		b.dropsEach()
	})
}

func TestPutOfTheGreatestInt(t *testing.T) {
	for _, used := range []int{0, 1, 1 << 32, 1 << 61, math.MaxInt / 3, math.MaxInt/3 + 1, math.MaxInt / 3 * 2, math.MaxInt/3*2 + 1, math.MaxInt - 1, math.MaxInt} {
		b := newPair(t, entry{6, 2, 3})
		b.put(5, used, math.MaxInt)
		b.drop(6)
		b.tellsEach()
		b.put(6, 1, 1)
		b.tellsEach()
	}
}

func TestPutOfWhatIsNoNumber(t *testing.T) {
	everyFilling(t, func(b *pair) {
		b.changesNothing(func() {
			for _, n := range noNumbers {
				b.put(n, 1, 3)
				b.put(n, 0, 0)
				b.put(n, 0, 1)
				b.put(n, 2, 1)
			}
		})
	})
}

func TestPutOfWhatCannotBeTaken(t *testing.T) {
	wrong := []struct{ used, many int }{
		{-1, 0}, {-1, 1}, {-1, 5}, {-2, -1}, {-1, -1}, {-1, -2}, {-5, -3}, {-3, -5}, {-1 << 32, 5}, {-1<<32 + 1, 5}, {math.MinInt, 5}, {math.MinInt, 0},
		{math.MinInt, math.MinInt}, {math.MinInt, math.MaxInt}, {-1, math.MaxInt}, {math.MinInt + 1, math.MaxInt}, {math.MinInt, math.MinInt + 1},
		{1, 0}, {2, 1}, {5, 4}, {65, 64}, {1 << 32, 5}, {1<<32 + 1, 5}, {math.MaxInt, 0}, {math.MaxInt, 64}, {math.MaxInt, math.MaxInt - 1},
		{0, -1}, {1, -1}, {0, -64}, {0, -1 << 32}, {0, math.MinInt}, {1, math.MinInt}, {math.MaxInt, math.MinInt}, {math.MaxInt, -1},
	}
	everyFilling(t, func(b *pair) {
		b.changesNothing(func() {
			for _, n := range []int{0, 1, 3, 7, 40, 4095} {
				for _, w := range wrong {
					b.put(n, w.used, w.many)
				}
			}
		})
	})
}

func TestDrop(t *testing.T) {
	everyFilling(t, func(b *pair) {
		for _, n := range []int{7, 7, 0, 0, 3, 4095, 4095} {
			b.drop(n)
			b.tellsSame()
		}
		b.dropsEach()
		b.dropsEach()
	})
}

func TestDropOfWhatIsNotThere(t *testing.T) {
	everyFilling(t, func(b *pair) {
		b.changesNothing(func() {
			for _, n := range noNumbers {
				b.drop(n)
			}
			for n := range 4096 {
				if b.p.at(n) < 0 {
					b.drop(n)
				}
			}
		})
	})
}

// What a number had ahead of its Drop is gone.
func TestPutBehindADrop(t *testing.T) {
	b := newPair(t, entry{2, 1, 4}, entry{7, 3, 5}, entry{9, 4, 6})
	b.drop(7)
	b.tellsEach()
	b.put(7, 9, 8)
	b.tellsEach()
	b.drop(7)
	b.put(7, 1, 8)
	b.tellsEach()
	b.drop(2)
	b.drop(9)
	b.drop(7)
	b.tellsEach()
	b.put(9, 0, 2)
	b.tellsEach()
}

// Promise 18.1, 18.2: a nil book has none, and takes none.
func TestNilBook(t *testing.T) {
	var b *group.Book
	for range 2 {
		for _, n := range append([]int{0, 1, 4095}, noNumbers...) {
			if b.Put(n, 1, 3) || b.Put(n, 0, 0) || b.Put(n, -1, 3) || b.Put(n, 4, 3) || b.Drop(n) {
				t.Fatalf("a nil book has %d", n)
			}
			if got, ok := b.Best(n); got != 0 || ok {
				t.Fatalf("Best of a nil book: %d, %t", got, ok)
			}
			if got := b.Room(n, 2); got != 0 {
				t.Fatalf("Room of a nil book: %d", got)
			}
		}
		if got, ok := b.Best(); got != 0 || ok {
			t.Fatalf("Best of a nil book: %d, %t", got, ok)
		}
		if got, ok := b.Worst(); got != 0 || ok {
			t.Fatalf("Worst of a nil book: %d, %t", got, ok)
		}
		if got := b.Room(); got != 0 {
			t.Fatalf("Room of a nil book: %d", got)
		}
		for _, g := range append([]int{0, 1, 2, 3, 4}, noGroups...) {
			if got := b.Count(g); got != 0 {
				t.Fatalf("Count(%d) of a nil book: %d", g, got)
			}
		}
	}
}
