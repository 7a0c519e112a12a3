package ram_test

import (
	"bytes"
	"math"
	"slices"
	"testing"

	"gunny/api"
	"gunny/ram"
)

// Promise 6.1.

func TestExample(t *testing.T) {
	r, err := ram.New(8)
	if err != api.OK {
		t.Fatal(err)
	}
	if n, ok := r.Take(api.User); n != 0 || !ok {
		t.Fatalf("Take for User: %d, %t", n, ok)
	}
	if !r.Write(0, 8, []byte{7}) {
		t.Fatal("Write(0, 8, 7): false")
	}
	if w, ok := r.Word(0, 1); w != 7 || !ok {
		t.Fatalf("Word(0, 1): %d, %t", w, ok)
	}
	if got, ok := r.Read(0, 7, 3); !bytes.Equal(got, []byte{0, 7, 0}) || !ok {
		t.Fatalf("Read(0, 7, 3): %d, %t", got, ok)
	}
}

func TestNewKeepsWithinBounds(t *testing.T) {
	for many := -200; many <= 300; many++ {
		newIsAs(t, many)
	}
	for _, many := range []int{
		math.MinInt, math.MinInt + 8, -1 << 62, -1 << 32, -1<<32 + 8, 1 << 31, 1 << 32, 1<<32 + 8, 1<<32 + 96,
		1 << 52, 1<<52 + 8, 1 << 62, 1<<62 + 8, math.MaxInt - 1, math.MaxInt,
	} {
		newIsAs(t, many)
	}
}

func newIsAs(t *testing.T, many int) {
	t.Helper()
	r, err := ram.New(many)
	if many < 8 || many > 96 {
		if r != nil || err != api.ErrArg {
			t.Errorf("New(%d): %v, %v", many, r, err)
		}
		return
	}
	if r == nil || err != api.OK || r.Many() != many {
		t.Fatalf("New(%d): %v, %v", many, r, err)
	}
}

func TestAtFirst(t *testing.T) {
	for many := 8; many <= 96; many++ {
		b := newPair(t, many)
		if b.r.Many() != many || b.r.Count(api.Free) != many || b.r.Turns() != 0 || b.r.Touches() != 0 {
			t.Errorf("of %d: Many %d, Free %d, Turns %d, Touches %d",
				many, b.r.Many(), b.r.Count(api.Free), b.r.Turns(), b.r.Touches())
		}
		b.isAs()
	}
}

func TestFramesAreTakenRisingAtFirst(t *testing.T) {
	for _, many := range manies {
		for _, owner := range takers {
			b := newPair(t, many)
			for want := range many {
				if n, ok := b.r.Take(owner); n != want || !ok || b.r.Owner(n) != owner {
					t.Fatalf("of %d, Take(%d): %d, %t, of %d", many, owner, n, ok, b.r.Owner(n))
				}
			}
			if n, ok := b.r.Take(owner); n != 0 || ok {
				t.Fatalf("of %d, one more for %d: %d, %t", many, owner, n, ok)
			}
		}
	}
}

func TestOnlyOwnersTake(t *testing.T) {
	everyState(t, func(b *pair) {
		for _, owner := range append(slices.Clone(noOwners), api.Free) {
			if n, ok := b.r.Take(owner); n != 0 || ok {
				b.Errorf("Take(%d): %d, %t", owner, n, ok)
			}
		}
		b.isAs()
	})
}

// A Take that is refused tells frame 0, which must keep its bytes.
func TestNoneIsLeft(t *testing.T) {
	for _, many := range manies {
		b := newPair(t, many)
		fillAll(b)
		for _, owner := range takers {
			if n, ok := b.r.Take(owner); n != 0 || ok {
				t.Fatalf("of %d, one more for %d: %d, %t", many, owner, n, ok)
			}
		}
		b.tellsSame()
	}
}

func TestTakenIsZero(t *testing.T) {
	zero := make([]byte, 4096)
	for _, many := range manies {
		b := newPair(t, many)
		fillAll(b)
		for n := range many {
			for _, owner := range takers {
				b.give(n)
				if got := b.take(owner); got != n {
					t.Fatalf("of %d, Take behind Give(%d): %d", many, n, got)
				}
				if got, ok := b.r.Read(n, 0, 4096); !bytes.Equal(got, zero) || !ok {
					t.Fatalf("of %d, frame %d taken anew: %x, %t", many, n, got, ok)
				}
				b.p.touches++
				b.fill(n, owner)
			}
		}
		b.isAs()
	}
}

func TestTakenAnewHasWordsOfZero(t *testing.T) {
	b := newPair(t, 8)
	n := b.take(api.Table)
	for i := range 512 {
		b.setWord(n, i, math.MaxUint64-uint64(i))
	}
	b.give(n)
	if got := b.take(api.Table); got != n {
		t.Fatalf("Take: %d, not %d", got, n)
	}
	for i := range 512 {
		if w, ok := b.r.Word(n, i); w != 0 || !ok {
			t.Fatalf("Word(%d, %d): %x, %t", n, i, w, ok)
		}
	}
}

// Others' bytes stay when a frame is given, or taken.
func TestTakeChangesOneFrame(t *testing.T) {
	for _, many := range manies {
		b := newPair(t, many)
		fillAll(b)
		for _, n := range []int{0, 1, many / 2, many - 2, many - 1} {
			b.give(n)
			b.tellsSame()
			b.take(api.Pool)
			b.tellsSame()
		}
	}
}

func TestReadEdges(t *testing.T) {
	b := newPair(t, 8)
	fillAll(b)
	page := pattern(4096, 31*3+1)
	cases := []struct {
		name     string
		at, size int
		want     []byte
	}{
		{"all", 0, 4096, page},
		{"all but the last", 0, 4095, page[:4095]},
		{"all but the first", 1, 4095, page[1:]},
		{"the first", 0, 1, page[:1]},
		{"the last", 4095, 1, page[4095:]},
		{"the last two", 4094, 2, page[4094:]},
		{"some", 100, 7, page[100:107]},
		{"across words", 5, 8, page[5:13]},
		{"none, from 0", 0, 0, nil},
		{"none, from between", 2000, 0, nil},
		{"none, from the last", 4095, 0, nil},
		{"none, from one past the last", 4096, 0, nil},
	}
	for _, c := range cases {
		if got, ok := b.r.Read(3, c.at, c.size); !bytes.Equal(got, c.want) || !ok {
			t.Errorf("%s: %x, %t", c.name, got, ok)
		}
		b.p.touches++
	}
	b.tellsSame()
}

func TestReadOfWhatIsNotThere(t *testing.T) {
	everyState(t, func(b *pair) {
		for n := range b.many() {
			for _, part := range noParts {
				if got, ok := b.r.Read(n, part.at, part.size); len(got) != 0 || ok {
					b.Errorf("Read(%d, %d, %d): %d bytes, %t", n, part.at, part.size, len(got), ok)
				}
			}
		}
		b.isAs()
	})
}

func TestWriteEdges(t *testing.T) {
	cases := []struct {
		name     string
		at, size int
	}{
		{"all", 0, 4096},
		{"all but the last", 0, 4095},
		{"all but the first", 1, 4095},
		{"the first", 0, 1},
		{"the last", 4095, 1},
		{"the last two", 4094, 2},
		{"some", 100, 7},
		{"across words", 5, 8},
		{"none, from 0", 0, 0},
		{"none, from between", 2000, 0},
		{"none, from the last", 4095, 0},
		{"none, from one past the last", 4096, 0},
	}
	for _, c := range cases {
		for _, n := range []int{0, 3, 7} {
			b := newPair(t, 8)
			fillAll(b)
			what := pattern(c.size, 99)
			if !b.r.Write(n, c.at, what) {
				t.Errorf("%s: false", c.name)
			}
			copy(b.p.pages[n][c.at:], what)
			b.p.touches++
			b.tellsSame()
		}
	}
}

func TestWriteOfWhatIsNotThere(t *testing.T) {
	room := pattern(8192, 7)
	everyState(t, func(b *pair) {
		for n := range b.many() {
			for _, part := range noParts {
				if part.size < 0 || part.size > len(room) {
					continue
				}
				if b.r.Write(n, part.at, room[:part.size]) {
					b.Errorf("Write(%d, %d, %d bytes): true", n, part.at, part.size)
				}
			}
			for _, at := range []int{math.MinInt, -4097, -1, 4097, 1 << 32, math.MaxInt} {
				if b.r.Write(n, at, nil) || b.r.Write(n, at, []byte{}) {
					b.Errorf("Write(%d, %d, no bytes): true", n, at)
				}
			}
		}
		b.isAs()
	})
}

func TestNilAndEmptyAreWrittenAlike(t *testing.T) {
	b := newPair(t, 8)
	fillAll(b)
	for _, at := range []int{0, 1, 4095, 4096} {
		if !b.r.Write(2, at, nil) || !b.r.Write(2, at, []byte{}) {
			t.Errorf("no bytes at %d: false", at)
		}
		b.p.touches += 2
	}
	b.tellsSame()
}

// refuses fails if anything may be done with bytes of frame n.
func refuses(b *pair, n int) {
	b.Helper()
	for _, part := range append(slices.Clone(noParts), struct{ at, size int }{0, 0}, struct{ at, size int }{0, 1},
		struct{ at, size int }{0, 4096}, struct{ at, size int }{4095, 1}, struct{ at, size int }{4096, 0}) {
		if got, ok := b.r.Read(n, part.at, part.size); len(got) != 0 || ok {
			b.Errorf("Read(%d, %d, %d): %d bytes, %t", n, part.at, part.size, len(got), ok)
		}
		if part.size >= 0 && part.size <= 8192 && b.r.Write(n, part.at, pattern(part.size, 1)) {
			b.Errorf("Write(%d, %d, %d bytes): true", n, part.at, part.size)
		}
	}
	for _, i := range append(slices.Clone(noWords), 0, 1, 511) {
		if w, ok := b.r.Word(n, i); w != 0 || ok {
			b.Errorf("Word(%d, %d): %x, %t", n, i, w, ok)
		}
		if b.r.SetWord(n, i, 1) {
			b.Errorf("SetWord(%d, %d): true", n, i)
		}
	}
}

func TestFreeFramesAreRefused(t *testing.T) {
	everyState(t, func(b *pair) {
		for n := range b.many() {
			if b.p.book.Owner(n) == api.Free {
				refuses(b, n)
			}
		}
		b.isAs()
	})
}

func TestGivenFramesAreRefused(t *testing.T) {
	b := newPair(t, 8)
	fillAll(b)
	for _, n := range []int{0, 5, 7} {
		b.give(n)
		refuses(b, n)
	}
	b.isAs()
}

func TestNoFramesAreRefused(t *testing.T) {
	everyState(t, func(b *pair) {
		for _, n := range outside(b.many()) {
			if n >= 0 && n < b.many() {
				continue
			}
			refuses(b, n)
		}
		b.isAs()
	})
}

func TestReadIsNewMemory(t *testing.T) {
	b := newPair(t, 8)
	fillAll(b)
	for _, part := range []struct{ at, size int }{{0, 4096}, {0, 10}, {90, 8}, {4000, 96}, {8, 0}, {4096, 0}} {
		got, ok := b.r.Read(1, part.at, part.size)
		if !ok {
			t.Fatalf("Read(1, %d, %d): false", part.at, part.size)
		}
		b.p.touches++
		for i := range got {
			got[i] = 0
		}
		got = append(got, 0, 0, 0, 0)
		got = got[:cap(got)]
		for i := range got {
			got[i] = 0
		}
	}
	b.tellsSame()
}

func TestReadStaysAsTold(t *testing.T) {
	b := newPair(t, 8)
	fillAll(b)
	want := pattern(4096, 31*2+1)
	got, _ := b.r.Read(2, 0, 4096)
	other, _ := b.r.Read(2, 0, 4096)
	b.r.Write(2, 0, make([]byte, 100))
	b.r.SetWord(2, 40, 0)
	if !bytes.Equal(got, want) {
		t.Error("what was told is changed by Write or SetWord")
	}
	b.r.Give(2)
	b.r.Take(api.User)
	if !bytes.Equal(got, want) {
		t.Error("what was told is changed when the frame is taken anew")
	}
	got[5] = 0
	if !bytes.Equal(other, want) {
		t.Error("what was told twice is one memory")
	}
}

func TestWriteKeepsAndChangesNothingHandedIn(t *testing.T) {
	b := newPair(t, 8)
	fillAll(b)
	for _, size := range []int{0, 1, 8, 100, 4096} {
		room := pattern(4200, 50+size)
		was := slices.Clone(room)
		b.write(4, 0, room[:size])
		b.r.SetWord(4, 0, 5)
		b.p.setWord(4, 0, 5)
		if !slices.Equal(room, was) {
			t.Errorf("of %d bytes: what was handed in is changed", size)
		}
		for i := range room {
			room[i] = 200
		}
		b.tellsSame()
	}
}

func TestNilRAM(t *testing.T) {
	var r *ram.RAM
	for range 2 {
		for _, owner := range append(slices.Clone(noOwners), 0, 1, 2, 3) {
			if n, ok := r.Take(owner); n != 0 || ok {
				t.Errorf("Take(%d): %d, %t", owner, n, ok)
			}
		}
		b := &pair{t, r, nil}
		for _, n := range append(outside(8), 0, 1, 7, 95) {
			refuses(b, n)
		}
		if r.Touches() != 0 {
			t.Errorf("Touches: %d", r.Touches())
		}
	}
}

func TestNilRAMHasNoFrames(t *testing.T) {
	var r *ram.RAM
	for range 2 {
		if r.Many() != 0 || r.Turns() != 0 {
			t.Errorf("Many %d, Turns %d", r.Many(), r.Turns())
		}
		for _, n := range append(outside(8), 0, 1, 7, 95) {
			if r.Give(n) || r.Owner(n) != api.Free {
				t.Errorf("Give(%d), or its owner %d", n, r.Owner(n))
			}
		}
		for _, owner := range append(slices.Clone(noOwners), 0, 1, 2, 3) {
			if len(r.Of(owner)) != 0 || r.Count(owner) != 0 {
				t.Errorf("Of(%d): %d, Count: %d", owner, r.Of(owner), r.Count(owner))
			}
		}
		if r.Count() != 0 || r.Count(0, 1, 2, 3) != 0 {
			t.Errorf("Count of none %d, of all %d", r.Count(), r.Count(0, 1, 2, 3))
		}
	}
}
