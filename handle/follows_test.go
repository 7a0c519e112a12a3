package handle_test

import (
	"testing"

	"gunny/api"
	"gunny/handle"
)

// Promise 19.3

// Of each handle in its turn: only what it stands for changes.
func TestNoOtherOneChanges(t *testing.T) {
	for _, many := range []int{1, 2, 3, 17, 512} {
		b := newPair(t, many)
		for h := 1; h <= many; h++ {
			b.set(h, placed(3000+h))
			if many < 100 || h%32 == 1 {
				b.tellsSame()
			}
			b.drop(h)
			if many < 100 || h%32 == 1 {
				b.tellsSame()
			}
			b.make(placed(5000 + h))
		}
		b.tellsEach()
		b.fillsUp()
	}
}

// Any row of three steps with three handles in use.
func TestEachShortRow(t *testing.T) {
	row := func(b *pair, step int) {
		h, p := 1+step/3%4, placed(40+step)
		switch step % 3 {
		case 0:
			b.make(p)
		case 1:
			b.set(h, p)
		case 2:
			b.drop(h)
		}
	}
	for first := range 12 {
		for second := range 12 {
			for third := range 12 {
				b := newPair(t, 3)
				for _, step := range []int{first, second, third} {
					row(b, step)
				}
				for h := range 7 {
					b.get(h)
				}
				b.long()
			}
		}
	}
}

// done is what was set, or dropped, in its order.
type done struct {
	h       int
	p       handle.Place
	dropped bool
}

// What a handle stands for is what was set last, in the row of all that was
// done.
func TestWhatWasSetLast(t *testing.T) {
	table := handle.New()
	next := steps(193)
	var row []done
	for range 3000 {
		h, p := 1+next()%40, placed(next()%100000)
		switch next() % 4 {
		case 0, 1:
			if n, err := table.Make(p); err == api.OK {
				row = append(row, done{h: n, p: p})
			}
		case 2:
			if table.Set(h, p) {
				row = append(row, done{h: h, p: p})
			}
		default:
			if _, ok := table.Drop(h); ok {
				row = append(row, done{h: h, dropped: true})
			}
		}
	}
	last := map[int]done{}
	for _, d := range row {
		last[d.h] = d
	}
	for h := range 514 {
		d, was := last[h]
		p, ok := table.Get(h)
		if p != d.p || ok != (was && !d.dropped) {
			t.Fatalf("Get(%d): %v, %t, but %v was done last", h, p, ok, d)
		}
	}
}

func TestTwoTablesBesideEachOther(t *testing.T) {
	a, b := newPair(t, 4, 2), newPair(t, 0)
	a.tellsEach()
	b.tellsEach()
	for n := range 512 {
		b.make(placed(900 + n))
	}
	a.tellsEach()
	a.make(placed(71))
	a.set(1, placed(72))
	b.tellsEach()
	b.drop(3)
	b.set(1, placed(73))
	a.tellsEach()
	for h := range 6 {
		a.drop(h)
	}
	b.tellsEach()
	a.fillsUp()
	b.fillsUp()
}

// A place that was handed in, and one that was told, are values.
func TestPlacesAreNotKept(t *testing.T) {
	b := newPair(t, 2)
	p := handle.Place{Page: 5, Obj: 6, Len: 7}
	b.make(p)
	b.set(1, p)
	p.Page, p.Obj, p.Len = 8, 9, 10
	b.tellsEach()
	got, _ := b.t.Get(1)
	got.Page = 11
	b.tellsEach()
}

func TestManySteps(t *testing.T) {
	for _, handles := range []int{1, 3, 12, 96, 512} {
		for seed := range 4 {
			b := newPair(t, 0)
			next := steps(seed*1000 + handles)
			for range 1500 {
				h, p := next()%handles+1, handle.Place{Page: next() % 9 * 500, Obj: next() % 256, Len: 1 + next()%4096}
				switch next() % 10 {
				case 0, 1, 2:
					if len(b.l) < handles {
						b.make(p)
					}
				case 3, 4:
					b.set(h, p)
				case 5:
					b.drop(h)
				case 6:
					b.make(handle.Place{Page: p.Page, Obj: p.Obj})
				case 7:
					b.set(h, handle.Place{Page: p.Page, Obj: p.Obj + 256, Len: p.Len})
				default:
					b.get(h)
					b.of(p.Page)
				}
				if next()%32 == 0 {
					b.tellsSame()
				}
			}
			b.tellsEach()
			b.fillsUp()
		}
	}
}
