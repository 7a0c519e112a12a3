package group_test

import (
	"slices"
	"testing"

	"gunny/group"
)

// Promise 18.2: Best, Worst, Room and Count

func isBest(t *testing.T, b *group.Book, want int, wantOK bool, but ...int) {
	t.Helper()
	if n, ok := b.Best(but...); n != want || ok != wantOK {
		t.Fatalf("Best but %v: %d, %t, not %d, %t", but, n, ok, want, wantOK)
	}
}

func isWorst(t *testing.T, b *group.Book, want int, wantOK bool) {
	t.Helper()
	if n, ok := b.Worst(); n != want || ok != wantOK {
		t.Fatalf("Worst: %d, %t, not %d, %t", n, ok, want, wantOK)
	}
}

func isRoom(t *testing.T, b *group.Book, want int, but ...int) {
	t.Helper()
	if got := b.Room(but...); got != want {
		t.Fatalf("Room but %v: %d, not %d", but, got, want)
	}
}

func TestTheExample(t *testing.T) {
	b := newPair(t, entry{0, 3, 4}, entry{1, 1, 4}).b
	isBest(t, b, 0, true)
	isWorst(t, b, 1, true)
	isRoom(t, b, 4)
	isBest(t, b, 1, true, 0)
	isRoom(t, b, 3, 0)
	isBest(t, b, 0, false, 0, 1)
	isRoom(t, b, 0, 1, 0)
}

func TestAnEmptyBook(t *testing.T) {
	b := newPair(t)
	b.tellsEach()
	isBest(t, b.b, 0, false)
	isBest(t, b.b, 0, false, 0, 1)
	isWorst(t, b.b, 0, false)
	isRoom(t, b.b, 0)
	isRoom(t, b.b, 0, 0, 1)
}

func TestOneNumber(t *testing.T) {
	for many := range 9 {
		for used := range many + 1 {
			b := newPair(t, entry{7, used, many})
			b.tellsEach()
			if used == many {
				isBest(t, b.b, 0, false)
			} else {
				isBest(t, b.b, 7, true)
			}
			if used > 0 && used < many {
				isWorst(t, b.b, 7, true)
			} else {
				isWorst(t, b.b, 0, false)
			}
			isBest(t, b.b, 0, false, 7)
			isRoom(t, b.b, many-used)
			isRoom(t, b.b, 0, 7)
		}
	}
}

func TestEveryFilling(t *testing.T) {
	everyFilling(t, func(b *pair) {
		b.tellsEach()
		b.countsNone()
		b.tellsEach()
	})
}

// Of those of which equally few are free the least number is best, in whatever
// order they were put.
func TestBestOfEquallyFewFree(t *testing.T) {
	entries := []entry{{30, 3, 6}, {20, 61, 64}, {10, 0, 3}, {4000, 1, 4}, {5, 1, 5}}
	for _, order := range orders(5) {
		b := newPair(t)
		for _, at := range order {
			b.put(entries[at].n, entries[at].used, entries[at].many)
		}
		isBest(t, b.b, 10, true)
		isBest(t, b.b, 20, true, 10)
		isBest(t, b.b, 30, true, 10, 20)
		isBest(t, b.b, 4000, true, 10, 30, 20)
		isBest(t, b.b, 5, true, 10, 30, 20, 4000)
		isBest(t, b.b, 0, false, 10, 30, 5, 20, 4000)
		b.tellsEach()
	}
}

// Of those of which equally few are taken the greatest number is worst, in
// whatever order they were put.
func TestWorstOfEquallyFewTaken(t *testing.T) {
	entries := []entry{{30, 2, 6}, {50, 2, 64}, {10, 2, 3}, {4000, 3, 4}, {60, 0, 4}}
	for _, order := range orders(5) {
		b := newPair(t)
		for _, at := range order {
			b.put(entries[at].n, entries[at].used, entries[at].many)
		}
		for _, want := range []int{50, 30, 10, 4000} {
			isWorst(t, b.b, want, true)
			b.drop(want)
		}
		isWorst(t, b.b, 0, false)
		b.tellsEach()
	}
}

// Who is best hangs on how many are free, and who is worst on how many are
// taken, not on how great a part of all that is.
func TestNumbersAndNotParts(t *testing.T) {
	b := newPair(t, entry{3, 1, 3}, entry{4, 60, 64}, entry{5, 3, 6}, entry{6, 2, 64})
	isBest(t, b.b, 3, true)
	isWorst(t, b.b, 3, true)
	b.drop(3)
	isBest(t, b.b, 5, true)
	isWorst(t, b.b, 6, true)
}

// One that is Empty may be best, but not worst.
func TestEmptyMayBeBest(t *testing.T) {
	b := newPair(t, entry{3, 0, 2}, entry{4, 1, 4}, entry{5, 9, 9})
	isBest(t, b.b, 3, true)
	isWorst(t, b.b, 4, true)
	b.drop(4)
	isBest(t, b.b, 3, true)
	isWorst(t, b.b, 0, false)
	b.drop(3)
	isBest(t, b.b, 0, false)
	isWorst(t, b.b, 0, false)
}

func TestAllFull(t *testing.T) {
	b := newPair(t)
	for n := range 100 {
		b.put(n, n, n)
		isBest(t, b.b, 0, false)
		isWorst(t, b.b, 0, false)
		isRoom(t, b.b, 0)
	}
	b.tellsEach()
}

func TestAllEmpty(t *testing.T) {
	b := newPair(t)
	for n := range 100 {
		b.put(99-n, 0, 5)
		isBest(t, b.b, 99-n, true)
		isWorst(t, b.b, 0, false)
		isRoom(t, b.b, 5*(n+1))
	}
	b.tellsEach()
}

func TestButWhatIsToldOneByOne(t *testing.T) {
	everyFilling(t, func(b *pair) {
		all := b.p.numbers()
		b.isBut(nil...)
		b.isBut([]int{}...)
		b.isBut(all...)
		b.isBut(slices.Concat(all, all)...)
		for at := range min(len(all), 20) {
			n := all[at*7%len(all)]
			b.isBut(n)
			b.isBut(n, n)
			b.isBut(n, 4096, n, -1, n)
			b.isBut(slices.Concat(all[:at], all[at+1:])...)
			b.isBut(all[:at]...)
			b.isBut(all[at:]...)
		}
		b.tellsSame()
	})
}

// Those that aren't in the book leave it as it is, but for no number that is.
func TestButWhatIsNotInTheBook(t *testing.T) {
	b := newPair(t, entry{0, 3, 4}, entry{7, 1, 4}, entry{4095, 0, 4})
	b.isBut(noNumbers...)
	for _, n := range noNumbers {
		b.isBut(n)
		b.isBut(n, 0)
	}
	isBest(t, b.b, 0, true, noNumbers...)
	isRoom(t, b.b, 8, noNumbers...)
	isBest(t, b.b, 0, true, 1, 2, 8, 4094)
	isRoom(t, b.b, 8, 1, 2, 8, 4094)
	b.drop(0)
	isBest(t, b.b, 7, true, 0)
	isRoom(t, b.b, 7, 0)
}

// What is told in great number ends, and soon.
func TestButVeryMany(t *testing.T) {
	b := newPair(t, manyEntries(4096, 2049)...)
	var but []int
	for at := range 400_000 {
		but = append(but, at%4000)
	}
	for range 3 {
		if n, ok := b.b.Best(but...); !ok || n < 4000 {
			t.Fatalf("Best: %d, %t", n, ok)
		}
		room := 0
		for _, e := range b.p {
			if e.n >= 4000 {
				room += e.many - e.used
			}
		}
		isRoom(t, b.b, room, but...)
	}
}

func TestCountOfEachGroup(t *testing.T) {
	b := newPair(t)
	n := 0
	for g, at := range [...]entry{{0, 0, 6}, {0, 2, 6}, {0, 4, 6}, {0, 5, 6}, {0, 6, 6}} {
		for range g + 3 {
			b.put(n, at.used, at.many)
			n++
			b.tellsSame()
		}
	}
	for g, want := range []int{3, 4, 5, 6, 7} {
		if got := b.b.Count(g); got != want {
			t.Fatalf("Count(%d): %d, not %d", g, got, want)
		}
	}
	b.put(99, 0, 0)
	if got := b.b.Count(group.Full); got != 8 {
		t.Fatalf("Count(Full): %d, not 8", got)
	}
}

// What is handed in is neither changed nor kept, and nothing behind its length
// is read.
func TestWhatIsHandedIn(t *testing.T) {
	b := newPair(t, entry{0, 3, 4}, entry{1, 1, 4}, entry{2, 2, 4}, entry{3, 0, 4})
	row := []int{2, 4096, 0, 2, -1, 1, 3, 3}
	was := slices.Clone(row)
	for many := range len(row) + 1 {
		but := row[:many]
		b.isBut(but...)
		b.isBut(was[:many]...)
		if !slices.Equal(row, was) {
			t.Fatalf("what is handed in: %v, not %v", row, was)
		}
	}
	but := slices.Clone(row)
	b.isBut(but...)
	for at := range but {
		but[at] = at
	}
	b.tellsEach()
	b.isBut(row...)
	b.tellsEach()
}

func TestAskingChangesNothing(t *testing.T) {
	everyFilling(t, func(b *pair) {
		b.changesNothing(func() {
			for n := range 50 {
				b.b.Best(n)
				b.b.Room(n, n+1)
				b.b.Worst()
				b.b.Count(n)
			}
		})
	})
}
