package handle_test

import (
	"math"
	"testing"

	"gunny/api"
	"gunny/handle"
)

// Promise 19.1: New, May and Make

func TestNew(t *testing.T) {
	b := newPair(t, 0)
	b.tellsEach()
	b.changesNothing(func() {
		for h := -1; h <= 513; h++ {
			b.set(h, handle.Place{Len: 1})
			b.drop(h)
		}
	})
}

func TestMayAtTheEdges(t *testing.T) {
	pages := append(noPages(), 0, 1, 7, 255, 256, 2048, 4094, 4095)
	objects := append(noObjects(), 0, 1, 7, 128, 254, 255)
	lengths := append(noLengths(), 1, 2, 255, 256, 4095, 4096)
	for _, page := range pages {
		for _, obj := range objects {
			for _, long := range lengths {
				p := handle.Place{Page: page, Obj: obj, Len: long}
				if got := handle.May(p); got != plainMay(p) {
					t.Fatalf("May(%v): %t", p, got)
				}
			}
		}
	}
}

// What the chapter's words name, written out.
func TestMayWrittenOut(t *testing.T) {
	for _, p := range []handle.Place{
		{Page: 0, Obj: 0, Len: 1}, {Page: 4095, Obj: 0, Len: 1}, {Page: 0, Obj: 255, Len: 1}, {Page: 0, Obj: 0, Len: 4096}, {Page: 4095, Obj: 255, Len: 4096},
	} {
		if !handle.May(p) {
			t.Errorf("May(%v): false", p)
		}
	}
	for _, p := range []handle.Place{
		{}, {Page: -1, Len: 1}, {Page: 4096, Len: 1}, {Page: math.MinInt, Len: 1}, {Page: math.MaxInt, Len: 1},
		{Obj: -1, Len: 1}, {Obj: 256, Len: 1}, {Obj: math.MinInt, Len: 1}, {Obj: math.MaxInt, Len: 1},
		{Len: 0}, {Len: -1}, {Len: 4097}, {Len: math.MinInt}, {Len: math.MaxInt}, {Page: 1, Obj: 1},
	} {
		if handle.May(p) {
			t.Errorf("May(%v): true", p)
		}
	}
}

func TestMayOfEachPart(t *testing.T) {
	for n := -300; n < 4400; n++ {
		for _, p := range []handle.Place{
			{Page: n, Len: 1}, {Page: n, Obj: 255, Len: 4096},
			{Obj: n, Len: 1}, {Page: 4095, Obj: n, Len: 4096},
			{Len: n}, {Page: 4095, Obj: 255, Len: n},
		} {
			if got := handle.May(p); got != plainMay(p) {
				t.Fatalf("May(%v): %t", p, got)
			}
		}
	}
}

func TestMakeAsTheChapterSays(t *testing.T) {
	h := handle.New()
	p := handle.Place{Page: 3, Obj: 2, Len: 10}
	for want := 1; want <= 2; want++ {
		if n, err := h.Make(p); n != want || err != api.OK {
			t.Fatalf("Make: %d, %v", n, err)
		}
	}
	if got, ok := h.Drop(1); got != p || !ok {
		t.Fatalf("Drop: %v, %t", got, ok)
	}
	if n, err := h.Make(p); n != 1 || err != api.OK {
		t.Fatalf("Make: %d, %v", n, err)
	}
}

func TestMakeOfWhatMayBe(t *testing.T) {
	everyFilling(t, func(b *pair) {
		for _, p := range edges() {
			h := b.make(p)
			b.get(h)
			b.of(p.Page)
			b.drop(h)
		}
		b.make(placed(88))
		b.tellsEach()
	})
}

func TestMakeOfWhatMayNotBe(t *testing.T) {
	everyFilling(t, func(b *pair) {
		b.changesNothing(func() {
			for _, p := range noPlaces() {
				b.make(p)
			}
		})
	})
}

// The same place may have any number of handles.
func TestMakeOfTheSame(t *testing.T) {
	for _, p := range []handle.Place{{Len: 1}, {Page: 4095, Obj: 255, Len: 4096}, placed(5)} {
		b := newPair(t, 0)
		for range 513 {
			b.make(p)
		}
		b.tellsSame()
		b.drop(2)
		b.tellsSame()
	}
}

func TestMakeUntilNoneIsLeft(t *testing.T) {
	b := newPair(t, 0)
	for n := range 512 {
		b.make(placed(n))
		b.get(n + 1)
	}
	b.tellsEach()
	b.changesNothing(func() {
		for n := range 5 {
			b.make(placed(n))
			b.make(placed(600 + n))
		}
	})
}

// The least one is taken whatever order they were dropped in.
func TestMakeBehindDrops(t *testing.T) {
	next := steps(19)
	for _, many := range []int{1, 2, 3, 8, 60, 511, 512} {
		for range 4 {
			b := newPair(t, many)
			for range 1 + many/3 {
				b.drop(1 + next()%many)
			}
			b.tellsSame()
			b.fillsUp()
			for n := range many {
				b.drop(n*7%many + 1)
				b.make(placed(n))
			}
			b.tellsSame()
			b.fillsUp()
		}
	}
}

func TestMakeBehindADropOfEach(t *testing.T) {
	b := newPair(t, 512)
	for h := 512; h >= 1; h-- {
		b.drop(h)
		b.make(placed(h))
		b.make(placed(h))
		b.drop(513 - h)
		b.make(placed(600 + h))
	}
	b.tellsEach()
}

// All are dropped, in the one order and the other one.
func TestMakeBehindDropsOfAll(t *testing.T) {
	b := newPair(t, 512)
	for h := 1; h <= 512; h++ {
		b.drop(h)
	}
	b.tellsEach()
	b.fillsUp()
	b = newPair(t, 512)
	for h := 512; h >= 1; h-- {
		b.drop(h)
	}
	b.tellsEach()
	b.fillsUp()
}
