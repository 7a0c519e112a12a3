package pool_test

import (
	"bytes"
	"slices"
	"testing"

	"gunny/api"
	"gunny/handle"
	"gunny/pool"
	"gunny/ram"
)

// Promise 20.1: New, RAM, Alloc

func TestExample(t *testing.T) {
	p := pool.New(newRAM(t, 8))
	for want := 1; want <= 2; want++ {
		if h, err := p.Alloc(pattern(2000, want)); h != want || err != api.OK {
			t.Fatalf("Alloc: %d, %v", h, err)
		}
	}
	s := p.Sheets()
	if len(s) != 1 || s[0].Page != 0 || s[0].Class != 31 || s[0].Used != 2 || s[0].Many != 2 || !slices.Equal(s[0].Row, []int{0}) {
		t.Errorf("Sheets: %v", s)
	}
	for h := 1; h <= 2; h++ {
		if b, ok := p.Read(h); !ok || !bytes.Equal(b, pattern(2000, h)) {
			t.Errorf("Read(%d): %d bytes, %t, or other ones", h, len(b), ok)
		}
	}
	if p.Len() != 2 || p.Bytes() != 4000 || p.Frames() != 1 || p.Objects(31) != 2 {
		t.Errorf("Len %d, Bytes %d, Frames %d, Objects(31) %d", p.Len(), p.Bytes(), p.Frames(), p.Objects(31))
	}
}

// Each number of frames that a RAM may have, some of which others have.
func TestNewChangesNothing(t *testing.T) {
	for frames := 8; frames <= 96; frames++ {
		r := newRAM(t, frames)
		r.Take(api.Table)
		b := pairIn(t, r)
		if r.Turns() != 1 || r.Touches() != 0 || r.Count(api.Free) != frames-1 {
			t.Fatalf("New: Turns %d, Touches %d, Free %d", r.Turns(), r.Touches(), r.Count(api.Free))
		}
		b.tellsSame()
	}
}

func TestRAMIsItself(t *testing.T) {
	everyFilling(t, func(b *pair) {
		if b.p.RAM() != b.r {
			b.Fatal("RAM: another one")
		}
	})
}

func refusedAlloc(b *pair, what []byte, want api.Errno) {
	b.Helper()
	b.changesNothing("Alloc", func() {
		b.Helper()
		if h, err := b.p.Alloc(what); h != 0 || err != want {
			b.Fatalf("Alloc of %d bytes: %d, %v, not %v", len(what), h, err, want)
		}
	})
}

// ErrArg is told ahead of ErrNoMem, which holds of the last few fillings.
func TestAllocOfNoneOrTooMany(t *testing.T) {
	everyFilling(t, func(b *pair) {
		refusedAlloc(b, nil, api.ErrArg)
		refusedAlloc(b, []byte{}, api.ErrArg)
		refusedAlloc(b, make([]byte, 0, 100), api.ErrArg)
		for _, many := range []int{4097, 4098, 4160, 8192, 65536, 65537, 1 << 20} {
			refusedAlloc(b, pattern(many, 1), api.ErrArg)
		}
	})
}

func TestAllocAtTheEdges(t *testing.T) {
	for _, many := range []int{1, 2, 63, 64, 65, 4032, 4033, 4095, 4096} {
		b := newPair(t, 8)
		b.put(many, many)
		b.tellsSame()
	}
}

func TestAllocAtEachEdgeOfAClass(t *testing.T) {
	b := newPair(t, 16)
	for _, many := range lengths() {
		h := b.put(many, many)
		if s := b.p.Sheets(); len(s) != 1 || s[0].Class != (many-1)/64 {
			t.Fatalf("of %d bytes: %v", many, s)
		}
		b.tellsCounts()
		b.read(h)
		b.free(h)
	}
	for _, many := range []int{1, 64, 65, 128, 2000, 3008, 3009, 4095, 4096} {
		b.put(many, many)
		b.tellsSame()
	}
}

// Objects of each class, till two zspages are full and there is a third one.
func TestAllocOfManyOfOneClass(t *testing.T) {
	for class := range 64 {
		b := newPair(t, 96)
		for n := range 2*plainMany(class) + 1 {
			if h := b.put(plainSize(class)-n%64, n); h != n+1 {
				t.Fatalf("Alloc: %d", h)
			}
			if got, want := len(b.p.Sheets()), 1+n/plainMany(class); got != want {
				t.Fatalf("class %d: %d zspages of %d objects, not %d", class, got, n+1, want)
			}
		}
		b.tellsSame()
	}
}

func TestAllocOfSeveralClassesBesideEachOther(t *testing.T) {
	b := newPair(t, 96)
	for n := range 150 {
		b.put(1+n*n*37%4096, n)
		b.tellsCounts()
		if b.r.Count(api.Free) < 8 {
			break
		}
	}
	b.tellsSame()
}

// Where it goes is told out by hand here, besides what the plain list says.
func goesTo(b *pair, many, page, frames int) {
	b.Helper()
	ahead := b.p.Frames()
	h := b.put(many, 77)
	p, _ := b.p.Where(h)
	if p.Page != page || b.p.Frames() != ahead+frames {
		b.Fatalf("of %d bytes: zspage %d, with %d frames more, not %d, %d", many, p.Page, b.p.Frames()-ahead, page, frames)
	}
}

func TestAllocGoesToTheBest(t *testing.T) {
	b := newPair(t, 24)
	b.lay(15, 1, 4, 2, 3, 2)
	for _, page := range []int{3, 2, 2, 4, 4, 0, 0, 0} {
		goesTo(b, 1024, page, 0)
	}
	goesTo(b, 1024, 5, 1)
	goesTo(b, 961, 5, 0)
	b.tellsSame()
}

// A zspage of another class is not taken, though it has room that would do.
func TestAllocGoesToItsClassAlone(t *testing.T) {
	b := newPair(t, 24)
	b.lay(15, 3, 1)
	b.lay(17, 1)
	goesTo(b, 1025, 3, plainFrames(16))
	goesTo(b, 960, 4, plainFrames(14))
	goesTo(b, 1024, 0, 0)
	goesTo(b, 1025, 3, 0)
	b.tellsSame()
}

func TestAllocHasTheLeastNumberThatNoneHas(t *testing.T) {
	b := newPair(t, 24)
	b.lay(63, 1, 0, 1, 0, 0, 1)
	goesTo(b, 3008, 1, 3)
	goesTo(b, 4096, 3, 1)
	goesTo(b, 3008, 1, 0)
	goesTo(b, 64, 4, 1)
	goesTo(b, 4096, 6, 1)
	b.tellsSame()
	b.free(1)
	goesTo(b, 2048, 0, 1)
	goesTo(b, 1024, 7, 1)
	b.tellsSame()
}

func TestAllocWhereAllHandlesAreInUse(t *testing.T) {
	everyFilling(t, func(b *pair) {
		if b.p.Len() < 512 {
			return
		}
		for _, many := range []int{1, 64, 65, 128, 129, 3000, 4096} {
			refusedAlloc(b, pattern(many, 1), api.ErrNoMem)
		}
		for _, h := range []int{512, 1, 300, 511} {
			o := b.objects[h]
			b.free(h)
			if got := b.put(len(o.bytes), 3); got != h {
				b.Fatalf("behind Free(%d): %d", h, got)
			}
			refusedAlloc(b, pattern(1, 1), api.ErrNoMem)
		}
	})
}

// Each number of Free frames up to one more than is needed.
func TestAllocWithFewFramesFree(t *testing.T) {
	for class := range 64 {
		needs := plainFrames(class)
		for free := range needs + 2 {
			b := newPair(t, 8)
			b.put(64, 1)
			if class == 0 {
				b.lay(0, 63)
			}
			b.others(free)
			if free < needs {
				refusedAlloc(b, pattern(plainSize(class), 1), api.ErrNoMem)
				continue
			}
			goesTo(b, plainSize(class), 1, needs)
			if got := b.r.Count(api.Free); got != free-needs {
				t.Errorf("class %d, with %d Free ones: %d are", class, free, got)
			}
		}
	}
}

// Where its zspage has room no frame is needed.
func TestAllocWithNoFrameFree(t *testing.T) {
	b := newPair(t, 8)
	b.lay(15, 2, 3)
	b.others(0)
	refusedAlloc(b, pattern(64, 1), api.ErrNoMem)
	for _, page := range []int{1, 0, 0} {
		refusedAlloc(b, pattern(4096, 1), api.ErrNoMem)
		goesTo(b, 1000, page, 0)
	}
	refusedAlloc(b, pattern(1000, 1), api.ErrNoMem)
	b.tellsSame()
}

// Frames that a Free gives back are enough, or not.
func TestAllocBehindAFree(t *testing.T) {
	b := newPair(t, 8)
	b.lay(63, 1, 1, 1)
	b.lay(15, 1)
	b.others(1)
	refusedAlloc(b, pattern(3008, 1), api.ErrNoMem)
	b.free(2)
	refusedAlloc(b, pattern(3008, 1), api.ErrNoMem)
	b.free(1)
	goesTo(b, 3008, 0, 3)
	refusedAlloc(b, pattern(4096, 1), api.ErrNoMem)
	goesTo(b, 1024, 3, 0)
	b.free(3)
	goesTo(b, 4096, 1, 1)
	b.tellsSame()
}

func TestAllocInARAMOfNoFrames(t *testing.T) {
	p := pool.New(&ram.RAM{})
	if p == nil {
		t.Fatal("New: nil")
	}
	for _, many := range lengths() {
		if h, err := p.Alloc(pattern(many, 1)); h != 0 || err != api.ErrNoMem {
			t.Fatalf("Alloc of %d bytes: %d, %v", many, h, err)
		}
		if got := p.Need(many); got != plainFrames(plainClass(many)) {
			t.Fatalf("Need(%d): %d", many, got)
		}
	}
	for _, many := range []int{0, 4097} {
		if h, err := p.Alloc(pattern(many, 1)); h != 0 || err != api.ErrArg {
			t.Fatalf("Alloc of %d bytes: %d, %v", many, h, err)
		}
	}
	if p.Len() != 0 || p.Bytes() != 0 || p.Frames() != 0 || len(p.Sheets()) != 0 || p.Free(1) || p.Shift(1) {
		t.Error("a pool without frames has something")
	}
}

func TestAllocWhereOthersHaveAllFrames(t *testing.T) {
	b := newPair(t, 96)
	b.others(0)
	for _, many := range []int{1, 64, 2000, 3000, 4096} {
		refusedAlloc(b, pattern(many, 1), api.ErrNoMem)
	}
	b.tellsSame()
}

// Frames are given back by others, and taken anew, between.
func TestAllocInARAMThatOthersHaveFramesOf(t *testing.T) {
	b := newPair(t, 16)
	b.others(0)
	for _, n := range []int{3, 9, 1, 12} {
		b.r.Give(n)
	}
	b.put(3008, 1)
	if got := b.p.Sheets()[0].Row; !slices.Equal(got, []int{12, 1, 9}) {
		t.Errorf("Row: %v", got)
	}
	for range 3 {
		b.put(3000, 2)
	}
	b.put(10, 3)
	b.tellsSame()
	if b.r.Count(api.User) != 12 || b.r.Count(api.Pool) != 4 {
		t.Errorf("a user has %v", b.r.Of(api.User))
	}
}

func TestAllocNeitherChangesNorKeepsBytes(t *testing.T) {
	for _, many := range []int{1, 64, 100, 3008, 4096} {
		b := newPair(t, 8)
		given := pattern(many+100, 4)
		h, _ := b.alloc(given[:many])
		if !bytes.Equal(given, pattern(many+100, 4)) {
			t.Fatalf("Alloc of %d bytes changes them, or such behind them", many)
		}
		clear(given)
		b.read(h)
	}
}

// What an object has behind its bytes isn't told, nor what was there ahead.
func TestAllocOfFewerBytesThanWereThere(t *testing.T) {
	b := newPair(t, 8)
	b.put(64, 1)
	h := b.put(64, 2)
	b.free(h)
	if got := b.put(3, 9); got != h {
		t.Fatalf("Alloc: %d", got)
	}
	if p, _ := b.p.Where(h); p.Len != 3 || p == (handle.Place{}) {
		t.Fatalf("Where: %v", p)
	}
	b.tellsSame()
}
