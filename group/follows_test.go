package group_test

import (
	"slices"
	"testing"

	"gunny/group"
)

// Promise 18.3

// bestHasRoom fails if who is best is one of those told, isn't in the book, or
// has no room; and if there is none though one could be.
func bestHasRoom(b *pair, but ...int) {
	b.Helper()
	n, ok := b.b.Best(but...)
	at := b.p.at(n)
	if ok && (slices.Contains(but, n) || at < 0 || b.p[at].used >= b.p[at].many) {
		b.Fatalf("Best but %v: %d", but, n)
	}
	if !ok && (n != 0 || b.b.Room(but...) != 0) {
		b.Fatalf("Best but %v: %d, %t, but there is room", but, n, ok)
	}
}

// worstHasSomething fails if who is worst isn't in the book, or has nothing, or
// has no room.
func worstHasSomething(b *pair) {
	b.Helper()
	n, ok := b.b.Worst()
	at := b.p.at(n)
	if ok && (at < 0 || b.p[at].used < 1 || b.p[at].used >= b.p[at].many) {
		b.Fatalf("Worst: %d", n)
	}
	if between := b.b.Count(group.Few) + b.b.Count(group.Half) + b.b.Count(group.Most); ok != (between > 0) {
		b.Fatalf("Worst: %t, of %d", ok, between)
	}
}

// roomFollows fails if one that is told more takes away anything but what is
// free of it, once.
func roomFollows(b *pair) {
	b.Helper()
	var but []int
	for _, e := range b.p[:min(len(b.p), 70)] {
		room := b.b.Room(but...)
		but = append(but, e.n)
		if got := b.b.Room(but...); got != room-(e.many-e.used) {
			b.Fatalf("Room but %v: %d, behind %d", but, got, room)
		}
		if got := b.b.Room(append(but, e.n)...); got != room-(e.many-e.used) {
			b.Fatalf("Room but %v, the last one twice: %d, behind %d", but, got, room)
		}
		bestHasRoom(b, but...)
	}
}

// countsFollow fails if not each of the book is in just one group.
func countsFollow(b *pair) {
	b.Helper()
	sum := 0
	for g := range 5 {
		sum += b.b.Count(g)
	}
	if sum != len(b.p) {
		b.Fatalf("%d in all groups, not %d", sum, len(b.p))
	}
}

func follows(b *pair) {
	b.Helper()
	bestHasRoom(b)
	worstHasSomething(b)
	roomFollows(b)
	countsFollow(b)
}

func TestWhatFollows(t *testing.T) {
	everyFilling(t, follows)
}

// All that two zspages of up to five objects may have.
func TestWhatFollowsOfTwo(t *testing.T) {
	for many := range 6 {
		for used := range many + 1 {
			for otherMany := range 6 {
				for otherUsed := range otherMany + 1 {
					b := newPair(t, entry{8, used, many}, entry{3, otherUsed, otherMany})
					b.tellsEach()
					follows(b)
				}
			}
		}
	}
}

func TestTwoBooksBesideEachOther(t *testing.T) {
	a, b := newPair(t, entry{0, 3, 4}, entry{9, 1, 4}), newPair(t)
	a.tellsEach()
	b.tellsEach()
	b.put(0, 1, 8)
	b.put(1, 7, 8)
	a.tellsEach()
	a.drop(0)
	b.tellsEach()
	b.drop(9)
	a.tellsEach()
	a.dropsEach()
	b.tellsEach()
	b.dropsEach()
}

// Two books to which the same came in the end tell the same, however it came.
func TestHoweverItCame(t *testing.T) {
	entries := manyEntries(64, 61)
	a := newPair(t, entries...)
	b := newPair(t)
	for n := range 4096 {
		b.put(n, n%3, n%3+n%4)
	}
	for n := range 4096 {
		b.drop(4095 - n)
	}
	for at := range entries {
		e := entries[at*27%64]
		b.put(e.n, 1, 2)
		b.put(e.n, e.used, e.many)
	}
	var but []int
	for range 64 {
		n, ok := a.b.Best(but...)
		if got, gotOK := b.b.Best(but...); got != n || gotOK != ok {
			t.Fatalf("Best: %d, %t, not %d, %t", got, gotOK, n, ok)
		}
		but = append(but, n)
	}
	a.tellsEach()
	b.tellsEach()
}

func TestManySteps(t *testing.T) {
	for _, numbers := range []int{1, 3, 12, 96, 700} {
		for seed := range 4 {
			b := newPair(t)
			next := steps(seed*1000 + numbers)
			for range 1500 {
				n, many := next()%numbers*5, next()%20
				switch next() % 8 {
				case 0, 1:
					b.drop(n)
				case 2:
					b.put(n, many+1+next()%3, many)
				case 3:
					b.put(n, many, many)
				default:
					b.put(n, next()%(many+1), many)
				}
				b.isBut(next()%numbers*5, next()%numbers*5, next()%numbers*5)
				if next()%16 == 0 {
					b.tellsSame()
				}
			}
			follows(b)
			b.tellsEach()
			b.dropsEach()
		}
	}
}
