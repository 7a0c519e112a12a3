package ram_test

import (
	"bytes"
	"math"
	"slices"
	"testing"

	"gunny/api"
)

// Promise 6.3, and what a RAM has of frames.

func TestFramesOfRAM(t *testing.T) {
	b := newPair(t, 8)
	for _, owner := range []int{1, 2, 3, 1, 2, 1, 3} {
		b.take(owner)
	}
	b.give(4)
	for n, want := range []int{1, 2, 3, 1, 0, 1, 3, 0} {
		if got := b.r.Owner(n); got != want {
			t.Errorf("Owner(%d): %d, not %d", n, got, want)
		}
	}
	for owner, want := range [][]int{{4, 7}, {0, 3, 5}, {1}, {2, 6}} {
		if got := b.r.Of(owner); !slices.Equal(got, want) || b.r.Count(owner) != len(want) {
			t.Errorf("Of(%d): %d, Count: %d", owner, got, b.r.Count(owner))
		}
	}
	if b.r.Many() != 8 || b.r.Turns() != 8 || b.r.Touches() != 0 {
		t.Errorf("Many %d, Turns %d, Touches %d", b.r.Many(), b.r.Turns(), b.r.Touches())
	}
	if got := b.r.Count(api.User, api.Pool, api.User); got != 5 {
		t.Errorf("Count of User, Pool and User: %d", got)
	}
}

func TestGiveOfFreeAndNoneChangesNothing(t *testing.T) {
	everyState(t, func(b *pair) {
		for n := range b.many() {
			if b.p.book.Owner(n) == api.Free && b.r.Give(n) {
				b.Errorf("Give(%d), which is Free: true", n)
			}
		}
		for _, n := range outside(b.many()) {
			if (n < 0 || n >= b.many()) && (b.r.Give(n) || b.r.Owner(n) != api.Free) {
				b.Errorf("Give(%d), or its owner %d", n, b.r.Owner(n))
			}
		}
		for _, owner := range noOwners {
			if b.r.Count(owner) != 0 || len(b.r.Of(owner)) != 0 {
				b.Errorf("Count(%d): %d, Of: %d", owner, b.r.Count(owner), b.r.Of(owner))
			}
		}
		b.isAs()
	})
}

func TestWhatIsWrittenIsReadByWhoHasTheFrame(t *testing.T) {
	b := newPair(t, 8)
	for _, owner := range takers {
		n := b.take(owner)
		b.write(n, 4000, pattern(96, owner))
		if got, ok := b.r.Read(n, 4000, 96); !bytes.Equal(got, pattern(96, owner)) || !ok {
			t.Errorf("frame %d of %d: %x, %t", n, owner, got, ok)
		}
	}
}

// Every byte of a frame is written alone, and no other one of any frame is changed.
func TestEveryByteIsWrittenAlone(t *testing.T) {
	b := newPair(t, 8)
	fillAll(b)
	for at := range 4096 {
		b.write(at%8, at, []byte{0})
		if at%64 == 63 {
			b.tellsSame()
		}
	}
	b.isAs()
}

func TestWritesOverWrites(t *testing.T) {
	b := newPair(t, 8)
	n := b.take(api.User)
	for _, part := range []struct{ at, size int }{{0, 4096}, {100, 50}, {120, 60}, {90, 15}, {100, 50}, {4000, 96}, {0, 1}} {
		b.write(n, part.at, pattern(part.size, part.at))
		b.tellsSame()
	}
}

func TestRAMsAreApart(t *testing.T) {
	a, b := newPair(t, 8), newPair(t, 8)
	fillAll(a)
	b.take(api.Pool)
	b.write(0, 5, []byte{9})
	a.give(3)
	b.take(api.User)
	b.setWord(1, 3, 77)
	a.take(api.Table)
	a.isAs()
	b.isAs()
}

func TestAskingChangesNothing(t *testing.T) {
	everyState(t, func(b *pair) {
		for range 2 {
			b.tellsSame()
			for n := range b.many() {
				b.word(n, 100)
				b.read(n, 1000, 24)
			}
		}
		b.isAs()
	})
}

// TestEveryShortRow does every row of a few steps beside the plain RAM.
func TestEveryShortRow(t *testing.T) {
	do := []func(b *pair){
		func(b *pair) { b.take(api.User) },
		func(b *pair) { b.take(api.Free) },
		func(b *pair) { b.give(0) },
		func(b *pair) { b.give(1) },
		func(b *pair) { b.write(0, 6, []byte{1, 2, 3, 4}) },
		func(b *pair) { b.write(1, 4092, []byte{5, 6, 7, 8}) },
		func(b *pair) { b.setWord(0, 1, 0xabcdef) },
		func(b *pair) { b.setWord(1, 511, math.MaxUint64) },
		func(b *pair) { b.word(0, 0) },
		func(b *pair) { b.read(1, 4090, 6) },
	}
	var row []int
	var follow func()
	follow = func() {
		b := newPair(t, 8)
		for _, step := range row {
			do[step](b)
		}
		b.isAs()
		if len(row) == 4 {
			return
		}
		for step := range do {
			row = append(row, step)
			follow()
			row = row[:len(row)-1]
		}
	}
	follow()
}

// TestManySteps does a long row of steps, always the same one, beside the plain RAM.
func TestManySteps(t *testing.T) {
	for _, many := range manies {
		b := newPair(t, many)
		next := steps(many)
		for at := range 6000 {
			oneStep(b, next)
			if at%100 == 0 {
				b.tellsSame()
			}
		}
		b.isAs()
	}
}

// oneStep takes somewhat more often than it gives, so that most frames are in use.
func oneStep(b *pair, next func() int) {
	n := next()%(b.many()+2) - 1
	switch next() % 16 {
	case 0, 1, 2:
		b.take(next()%6 - 1)
	case 3, 4:
		b.give(n)
	case 5, 6, 7:
		b.write(n, next()%4100-2, pattern(next()%20, next()%1000))
	case 8:
		b.write(n, next()%10, pattern(4080+next()%20, next()%1000))
	case 9, 10:
		b.read(n, next()%4100-2, next()%40-2)
	case 11, 12, 13:
		b.setWord(n, next()%516-2, uint64(next())*uint64(next())*uint64(next()))
	default:
		b.word(n, next()%516-2)
	}
}
