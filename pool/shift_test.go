package pool_test

import (
	"bytes"
	"testing"

	"gunny/api"
)

// Promise 20.3

// shiftsTo fails if the object isn't moved to that zspage. Which one it is is
// told out by hand, besides what the plain list says.
func shiftsTo(b *pair, h, page int) {
	b.Helper()
	free, turns := b.r.Of(api.Free), b.r.Turns()
	if !b.shift(h) {
		b.Fatalf("Shift(%d): false", h)
	}
	if p, ok := b.p.Where(h); !ok || p.Page != page {
		b.Fatalf("Shift(%d): to %v, %t, not zspage %d", h, p, ok, page)
	}
	for _, n := range free {
		if b.r.Owner(n) != api.Free {
			b.Fatalf("Shift(%d): frame %d is taken", h, n)
		}
	}
	if got, more := b.r.Turns()-turns, b.r.Count(api.Free)-len(free); got != more {
		b.Fatalf("Shift(%d): %d turns more, of %d frames", h, got, more)
	}
	b.tellsSame()
}

func refusedShift(b *pair, h int) {
	b.Helper()
	b.changesNothing("Shift", func() {
		b.Helper()
		if b.p.Shift(h) {
			b.Fatalf("Shift(%d): true", h)
		}
	})
}

func TestShiftOfNone(t *testing.T) {
	everyFilling(t, func(b *pair) {
		b.changesNothing("Shift", func() {
			b.Helper()
			for _, h := range notInUse(b) {
				if b.p.Shift(h) {
					b.Fatalf("Shift(%d): true", h)
				}
			}
		})
	})
}

func TestShiftToTheBest(t *testing.T) {
	b := newPair(t, 16)
	l := b.lay(15, 2, 1, 3, 4, 2)
	shiftsTo(b, l[1][0], 2)
	if b.p.Frames() != 4 {
		t.Fatalf("Frames %d: zspage 1 isn't closed", b.p.Frames())
	}
	shiftsTo(b, l[4][0], 0)
	shiftsTo(b, l[4][1], 0)
	tellsNumbers(b, 0, 2, 3)
	for _, h := range []int{l[0][0], l[1][0], l[3][0], l[4][1]} {
		refusedShift(b, h)
	}
}

// Where its own one is better than all others it goes to the best of these.
func TestShiftWhereItsOwnIsBetter(t *testing.T) {
	b := newPair(t, 16)
	l := b.lay(15, 1, 3, 2)
	shiftsTo(b, l[1][1], 2)
	shiftsTo(b, l[1][1], 1)
	shiftsTo(b, l[1][0], 2)
	shiftsTo(b, l[1][2], 2)
	tellsUsed(b, 1, 1, 4)
}

// tellsUsed fails if zspages, from 0 on, haven't so many objects.
func tellsUsed(b *pair, used ...int) {
	b.Helper()
	for n, want := range used {
		if got := b.sheet(n).Used; got != want {
			b.Fatalf("zspage %d: %d objects, not %d", n, got, want)
		}
	}
}

// Of several that are as good it is the one with the least number.
func TestShiftToTheLeastNumber(t *testing.T) {
	b := newPair(t, 16)
	l := b.lay(15, 2, 2, 2, 2)
	shiftsTo(b, l[0][0], 1)
	b.free(l[0][0])
	shiftsTo(b, l[3][1], 1)
	b.free(l[3][1])
	shiftsTo(b, l[1][1], 2)
}

func TestShiftFromAFullOne(t *testing.T) {
	b := newPair(t, 16)
	l := b.lay(15, 4, 1, 4)
	shiftsTo(b, l[2][3], 1)
	shiftsTo(b, l[0][3], 2)
	shiftsTo(b, l[0][0], 1)
	shiftsTo(b, l[0][1], 1)
	refusedShift(b, l[0][2])
}

func TestShiftWhereOnlyItsOwnHasRoom(t *testing.T) {
	b := newPair(t, 16)
	l := b.lay(15, 4, 2, 4)
	refusedShift(b, l[1][0])
	refusedShift(b, l[1][1])
	shiftsTo(b, l[0][0], 1)
}

func TestShiftWhereThereIsNoOther(t *testing.T) {
	for class := range 64 {
		b := newPair(t, 8)
		h := b.put(plainSize(class), 1)
		refusedShift(b, h)
		for n := 1; n < plainMany(class); n++ {
			h = b.put(plainSize(class), n)
		}
		refusedShift(b, h)
		b.tellsSame()
	}
}

// Zspages of other classes have room, which is none for it.
func TestShiftInItsClassAlone(t *testing.T) {
	b := newPair(t, 24)
	l := b.lay(15, 2)
	b.lay(14, 1)
	b.lay(17, 1)
	b.lay(31, 1)
	b.lay(0, 1)
	refusedShift(b, l[0][0])
	refusedShift(b, l[0][1])
	b.tellsSame()
}

func TestShiftWithNoFrameFree(t *testing.T) {
	b := newPair(t, 8)
	l := b.lay(46, 2, 3)
	b.others(0)
	shiftsTo(b, l[0][0], 1)
	refusedShift(b, l[0][1])
	shiftsTo(b, l[1][2], 0)
	shiftsTo(b, l[0][1], 1)
	refusedShift(b, l[1][2])
	b.free(l[1][0])
	shiftsTo(b, l[1][2], 1)
	if b.r.Count(api.Free) != 3 {
		t.Errorf("%d are Free", b.r.Count(api.Free))
	}
}

// All of what three zspages may have, and each of their objects.
func TestShiftOfEach(t *testing.T) {
	for used := range 125 {
		many := []int{used % 5, used / 5 % 5, used / 25}
		for h := 1; h <= 12; h++ {
			b := newPair(t, 8)
			b.lay(15, many...)
			b.shift(h)
			b.tellsCounts()
			b.read(h)
			b.where(h)
		}
	}
}

func TestShiftOfEachOfAll(t *testing.T) {
	everyFilling(t, func(b *pair) {
		for h := 1; h <= 512; h++ {
			if b.shift(h) {
				b.tellsCounts()
			}
			b.read(h)
		}
	})
}

// Of each class with room for more than one: the whole object, or its first
// byte alone.
func TestShiftKeepsHandleAndBytes(t *testing.T) {
	for class := range 64 {
		for _, many := range []int{plainSize(class), plainSize(class) - 63} {
			if plainMany(class) == 1 {
				continue
			}
			b := newPair(t, 16)
			for n := range plainMany(class) + 1 {
				b.put(many, n)
			}
			last := plainMany(class) + 1
			want := pattern(many, last-1)
			refusedShift(b, last)
			shiftsTo(b, 1, 1)
			shiftsTo(b, last, 0)
			if got, ok := b.p.Read(last); !ok || !bytes.Equal(got, want) {
				t.Fatalf("class %d: Read(%d): %d bytes, %t, or other ones", class, last, len(got), ok)
			}
			if b.p.Len() != last || b.p.Bytes() != last*many || b.p.Objects(class) != last {
				t.Fatalf("class %d: Len %d, Bytes %d, Objects %d", class, b.p.Len(), b.p.Bytes(), b.p.Objects(class))
			}
		}
	}
}

// The object that is left is free, and the number of a zspage that is closed is
// that of the next new one.
func TestAllocBehindAShift(t *testing.T) {
	b := newPair(t, 16)
	l := b.lay(15, 1, 3, 4)
	shiftsTo(b, l[0][0], 1)
	goesTo(b, 1024, 0, 1)
	goesTo(b, 64, 3, 1)
	shiftsTo(b, l[2][0], 0)
	goesTo(b, 1024, 2, 0)
	b.tellsSame()
}
