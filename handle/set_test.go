package handle_test

import (
	"testing"

	"gunny/api"
	"gunny/handle"
)

// Promise 19.1: Get, Set and Drop

func TestGetOfWhatIsNotInUse(t *testing.T) {
	everyFilling(t, func(b *pair) {
		b.changesNothing(func() {
			for _, h := range noHandles() {
				b.get(h)
			}
			for h := range 520 {
				b.get(h)
			}
		})
	})
}

func TestGetChangesNothing(t *testing.T) {
	b := newPair(t, 5, 2)
	for range 3 {
		for h := range 8 {
			b.get(h)
		}
	}
	b.tellsEach()
}

func TestSetOfWhatMayBe(t *testing.T) {
	for _, p := range edges() {
		b := newPair(t, 5, 4)
		for h := range 7 {
			b.set(h, p)
			b.tellsSame()
			b.set(h, p)
			b.tellsSame()
		}
		b.fillsUp()
	}
}

func TestSetOfEach(t *testing.T) {
	everyFilling(t, func(b *pair) {
		for at, h := range b.l.handles() {
			b.set(h, placed(2000+at))
			b.get(h)
		}
		b.tellsEach()
		b.fillsUp()
	})
}

func TestSetOfWhatMayNotBe(t *testing.T) {
	everyFilling(t, func(b *pair) {
		b.changesNothing(func() {
			for _, p := range noPlaces() {
				for _, h := range []int{0, 1, 2, 3, 256, 512, 513} {
					b.set(h, p)
				}
			}
		})
	})
}

func TestSetOfWhatIsNotInUse(t *testing.T) {
	everyFilling(t, func(b *pair) {
		b.changesNothing(func() {
			for h := range 520 {
				if _, used := b.l.get(h); !used {
					b.set(h, placed(h))
				}
			}
			for _, h := range noHandles() {
				b.set(h, placed(3))
				b.set(h, handle.Place{})
			}
		})
	})
}

func TestSetBehindADrop(t *testing.T) {
	b := newPair(t, 3)
	b.drop(2)
	b.changesNothing(func() {
		b.set(2, placed(8))
	})
	b.make(placed(9))
	b.set(2, placed(8))
	b.tellsEach()
}

func TestDropOfEach(t *testing.T) {
	everyFilling(t, func(b *pair) {
		for _, h := range b.l.handles() {
			b.drop(h)
			b.drop(h)
			b.get(h)
		}
		b.tellsEach()
		b.fillsUp()
	})
}

func TestDropTwiceWrittenOut(t *testing.T) {
	h := handle.New()
	p := handle.Place{Page: 9, Obj: 4, Len: 77}
	if n, err := h.Make(p); n != 1 || err != api.OK {
		t.Fatalf("Make: %d, %v", n, err)
	}
	if got, ok := h.Drop(1); got != p || !ok {
		t.Errorf("Drop: %v, %t", got, ok)
	}
	if got, ok := h.Drop(1); got != (handle.Place{}) || ok {
		t.Errorf("Drop once more: %v, %t", got, ok)
	}
	if got, ok := h.Get(1); got != (handle.Place{}) || ok {
		t.Errorf("Get: %v, %t", got, ok)
	}
}

func TestDropOfWhatIsNotInUse(t *testing.T) {
	everyFilling(t, func(b *pair) {
		b.changesNothing(func() {
			for h := range 520 {
				if _, used := b.l.get(h); !used {
					b.drop(h)
				}
			}
			for _, h := range noHandles() {
				b.drop(h)
			}
		})
	})
}

// What is dropped is what was set last.
func TestDropBehindASet(t *testing.T) {
	for _, p := range edges() {
		b := newPair(t, 4)
		b.set(3, p)
		b.drop(3)
		b.tellsSame()
	}
}
