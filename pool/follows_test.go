package pool_test

import (
	"bytes"
	"slices"
	"testing"

	"gunny/api"
	"gunny/handle"
)

// Promise 20.4

// One object stays, whatever is done with all others.
func TestWhateverOthersArePutFreedAndShifted(t *testing.T) {
	for _, many := range []int{1, 64, 700, 1000, 2000, 3008} {
		b := newPair(t, 96)
		b.put(many, 1)
		b.put(many, 2)
		kept := b.put(many, 3)
		for n := range 40 {
			b.put(many, 10+n)
			if n%2 > 0 {
				b.alloc(pattern(1+n*97, n))
			}
		}
		for h := 1; h <= 512; h++ {
			if h != kept && h%3 > 0 {
				b.free(h)
			}
			if h != kept && h%3 == 0 {
				b.shift(h)
			}
			b.read(kept)
		}
		b.tellsSame()
		for h := 1; h <= 512; h++ {
			if h != kept {
				b.free(h)
			}
		}
		if got, ok := b.p.Read(kept); !ok || !bytes.Equal(got, pattern(many, 3)) || b.p.Len() != 1 {
			t.Errorf("Read(%d): %d bytes, %t, or other ones", kept, len(got), ok)
		}
		b.tellsSame()
	}
}

// Objects that lie across frames are moved between zspages, to and fro.
func TestShiftedToAndFro(t *testing.T) {
	for _, class := range []int{2, 15, 31, 32, 46, 47} {
		b := newPair(t, 16)
		many := plainMany(class)
		b.lay(class, (many+1)/2, (many+1)/2)
		moved := 0
		for range 6 {
			for h := 1; h <= many; h++ {
				if b.shift(h) {
					moved++
				}
				b.read(h)
			}
		}
		if b.tellsSame(); moved == 0 {
			t.Errorf("class %d: none was shifted", class)
		}
	}
}

func TestTwoPoolsOnTwoRAMs(t *testing.T) {
	a, b := newPair(t, 16), newPair(t, 8)
	next := steps(5)
	for range 400 {
		oneStep(a, next)
		a.tellsCounts()
		oneStep(b, next)
		b.tellsCounts()
	}
	a.tellsSame()
	b.tellsSame()
}

// Two pools on one RAM have frames of their own each.
func TestTwoPoolsOnOneRAM(t *testing.T) {
	a := newPair(t, 96)
	b := pairIn(t, a.r)
	for n := range 12 {
		a.put(1000+n*90, n)
		b.put(3000-n*90, 50+n)
		if n%3 == 2 {
			a.free(n)
			b.free(n - 1)
		}
	}
	var frames []int
	for _, p := range []*pair{a, b} {
		p.tellsSheets()
		for _, s := range p.p.Sheets() {
			frames = append(frames, s.Row...)
		}
		for h := range 514 {
			p.read(h)
			p.where(h)
		}
	}
	slices.Sort(frames)
	if got := a.r.Of(api.Pool); !slices.Equal(got, frames) {
		t.Errorf("frames %v are the Pool's, not %v", got, frames)
	}
}

// A handle is in use just from where it is told to where it is freed, and has
// its place and its bytes for as long.
func TestHandlesComeAndGo(t *testing.T) {
	b := newPair(t, 48)
	for round := range 6 {
		for n := range 60 {
			b.put(1+(n*61+round*977)%640, n+round)
		}
		b.tellsSame()
		for h := 1 + round%2; h <= 60; h += 2 {
			b.free(h)
		}
		b.tellsSame()
		for h := 60; h >= 1; h-- {
			b.shift(h)
		}
		b.tellsSame()
		for h := 1; h <= 60; h++ {
			b.free(h)
		}
		if p, ok := b.p.Where(1); p != (handle.Place{}) || ok || b.p.Len() != 0 {
			t.Fatalf("Where(1): %v, %t, of %d", p, ok, b.p.Len())
		}
	}
}

// TestManySteps does a long row of steps with pools in RAMs of several sizes,
// always the same one.
func TestManySteps(t *testing.T) {
	for seed, frames := range []int{8, 9, 16, 32, 64, 96} {
		b := newPair(t, frames)
		next := steps(seed)
		for at := range 3000 {
			oneStep(b, next)
			if at%7 == 0 {
				b.tellsCounts()
			}
			if at%150 == 0 {
				b.tellsSame()
			}
		}
		b.tellsSame()
		for h := range 513 {
			b.free(h)
		}
		b.tellsSame()
		if b.p.Frames() != 0 {
			t.Errorf("%d frames are left", b.p.Frames())
		}
	}
}

// TestManyStepsWithAllHandles comes to where all are in use, again and again.
func TestManyStepsWithAllHandles(t *testing.T) {
	b := newPair(t, 96)
	next := steps(77)
	full := 0
	for at := range 4000 {
		switch {
		case at/700%2 == 0 || next()%3 == 0:
			if _, err := b.alloc(pattern(1+next()%200, next()%1000)); err == api.ErrNoMem {
				full++
			}
		case next()%2 == 0:
			b.free(1 + next()%512)
		default:
			b.shift(1 + next()%512)
		}
		if at%100 == 0 {
			b.tellsSame()
		}
	}
	if b.tellsSame(); full < 100 {
		t.Errorf("all were in use %d times", full)
	}
}

// oneStep does any one thing, mostly such that may be done. Lengths are of few
// classes, so that zspages have several objects.
func oneStep(b *pair, next func() int) {
	b.Helper()
	h := 1 + next()%(len(b.objects)+2)
	if next()%40 == 0 {
		h = next()%520 - 3
	}
	switch next() % 10 {
	case 0, 1, 2:
		sizes := []int{64, 128, 1024, 1088, 1408, 2048, 3008, 4096}
		b.alloc(pattern(sizes[next()%len(sizes)]-next()%64, next()%1000))
	case 3:
		b.alloc(pattern(next()%4100, next()%1000))
	case 4, 5:
		b.free(h)
	case 6, 7:
		b.shift(h)
	case 8:
		b.read(h)
		b.where(h)
		b.need(next()%4300 - 100)
	default:
		othersTakeOrGive(b, next)
	}
}

// othersTakeOrGive has a frame be a user's that was Free, or the other way round.
func othersTakeOrGive(b *pair, next func() int) {
	users := b.r.Of(api.User)
	if len(users) > 3 || len(users) > 0 && next()%2 == 0 {
		b.r.Give(users[next()%len(users)])
		return
	}
	b.r.Take(api.User)
}
