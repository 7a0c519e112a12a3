package inner_test

import (
	"bytes"
	"slices"
	"testing"

	"gunny/api"
	"gunny/inner"
)

// Promise 17.1

func TestMakeOfTheExample(t *testing.T) {
	p, err := inner.Make(newRAM(t, 8), 63)
	if p == nil || err != api.OK {
		t.Fatalf("Make: %v", err)
	}
	if p.Class() != 63 || p.Many() != 1 || p.Used() != 0 || !slices.Equal(p.Row(), []int{0}) || p.Has(0) {
		t.Errorf("Class %d, Many %d, Used %d, Row %v, Has(0) %t", p.Class(), p.Many(), p.Used(), p.Row(), p.Has(0))
	}
}

func TestMakeOfAFewClasses(t *testing.T) {
	for _, c := range []struct{ class, frames, many int }{{0, 1, 64}, {1, 1, 32}, {2, 3, 64}, {31, 1, 2}, {46, 3, 4}, {47, 3, 4}, {63, 1, 1}} {
		p, err := inner.Make(newRAM(t, 8), c.class)
		if err != api.OK || p.Class() != c.class || len(p.Row()) != c.frames || p.Many() != c.many {
			t.Errorf("Make(%d): %v, Class %d, Row %v, Many %d", c.class, err, p.Class(), p.Row(), p.Many())
		}
	}
}

func TestMakeOfAllClasses(t *testing.T) {
	for class := range 64 {
		b := newPair(t, class)
		var want []int
		for n := range plainFrames(class) {
			want = append(want, n)
		}
		if !slices.Equal(b.p.Row(), want) || !slices.Equal(b.r.Of(api.Pool), want) {
			t.Errorf("class %d: Row %v, of the Pool %v, not %v", class, b.p.Row(), b.r.Of(api.Pool), want)
		}
		if b.r.Turns() != len(want) || b.r.Count(api.Free) != 8-len(want) {
			t.Errorf("class %d: Turns %d, Free %d", class, b.r.Turns(), b.r.Count(api.Free))
		}
		b.tellsSame()
	}
}

// Frames are in a row in the order in which they were taken, side by side or not.
func TestMakeOfFramesThatAreNotSideBySide(t *testing.T) {
	r := newRAM(t, 16)
	for n := range 16 {
		r.Take(api.User)
		r.Write(n, 0, pattern(4096, n))
	}
	for _, n := range []int{5, 2, 14, 7} {
		r.Give(n)
	}
	b := pairIn(t, r, 46)
	if !slices.Equal(b.p.Row(), []int{7, 14, 2}) {
		t.Errorf("Row: %v", b.p.Row())
	}
	b.takeAll(1)
	b.tellsSame()
	b.keep()
	b.tellsSame()
	if r.Owner(5) != api.Free || r.Count(api.User) != 12 || r.Count(api.Pool) != 3 {
		t.Errorf("Free %v, of the Pool %v", r.Of(api.Free), r.Of(api.Pool))
	}
	for _, n := range r.Of(api.User) {
		if got, _ := r.Read(n, 0, 4096); !bytes.Equal(got, pattern(4096, n)) {
			t.Errorf("frame %d, which is a user's, has other bytes", n)
		}
	}
}

// refusedMake fails if Make tells anything but that error, or changes something.
func refusedMake(b *pair, class int, want api.Errno) {
	b.Helper()
	b.changesNothing("Make", func() {
		b.Helper()
		if p, err := inner.Make(b.r, class); p != nil || err != want {
			b.Fatalf("Make(%d): %t, %v, not %v", class, p != nil, err, want)
		}
	})
}

// ErrArg is told ahead of ErrNoMem.
func TestMakeOfNoClass(t *testing.T) {
	b := newPair(t, 46)
	for _, class := range noClasses {
		refusedMake(b, class, api.ErrArg)
		if p, err := inner.Make(nil, class); p != nil || err != api.ErrArg {
			t.Errorf("Make(nil, %d): %t, %v", class, p != nil, err)
		}
	}
	for b.r.Count(api.Free) > 0 {
		b.r.Take(api.User)
	}
	for _, class := range noClasses {
		refusedMake(b, class, api.ErrArg)
	}
	b.tellsSame()
}

func TestMakeInNoRAM(t *testing.T) {
	for class := range 64 {
		if p, err := inner.Make(nil, class); p != nil || err != api.ErrArg {
			t.Errorf("Make(nil, %d): %t, %v", class, p != nil, err)
		}
	}
}

func TestMakeWithFewFramesFree(t *testing.T) {
	for class := range 64 {
		needs := plainFrames(class)
		for free := range needs + 2 {
			b := newPair(t, 63)
			for b.r.Count(api.Free) > free {
				b.r.Take(api.Table)
			}
			if free < needs {
				refusedMake(b, class, api.ErrNoMem)
				continue
			}
			other := pairIn(t, b.r, class)
			if got := b.r.Count(api.Free); got != free-needs {
				t.Errorf("class %d, of which %d were Free: %d are", class, free, got)
			}
			other.tellsSame()
			b.tellsSame()
		}
	}
}

// Frames that are Free behind a refusal are taken as if nothing had been.
func TestMakeBehindARefusal(t *testing.T) {
	b := newPair(t, 63)
	for range 7 {
		b.r.Take(api.User)
	}
	b.r.Give(6)
	b.r.Give(3)
	refusedMake(b, 46, api.ErrNoMem)
	b.r.Give(4)
	other := pairIn(t, b.r, 46)
	if !slices.Equal(other.p.Row(), []int{4, 3, 6}) {
		t.Errorf("Row: %v", other.p.Row())
	}
	other.tellsSame()
	b.tellsSame()
}

func TestRowIsTheCallersOwn(t *testing.T) {
	b := newPair(t, 46)
	first, second := b.p.Row(), b.p.Row()
	clear(first)
	_ = append(first, 9)
	if !slices.Equal(second, b.row) {
		t.Errorf("two answers share memory: %v", second)
	}
	b.tellsSame()
	b.takeAll(1)
	b.keep()
	if !b.p.Close(b.r) || !slices.Equal(second, b.row) {
		t.Errorf("an answer changed behind Close: %v", second)
	}
}

func TestHasOfNumbersThatAreNotThere(t *testing.T) {
	everyState(t, func(b *pair) {
		b.changesNothing("Has", func() {
			for _, n := range outside(b.many()) {
				if b.p.Has(n) {
					b.Errorf("Has(%d)", n)
				}
			}
		})
	})
}

func TestHasIsOfThoseTaken(t *testing.T) {
	for _, class := range someClasses {
		b := newPair(t, class)
		for n := range b.many() {
			b.only(n)
			for other := range b.many() {
				if got := b.p.Has(other); got != (other == n) {
					t.Errorf("class %d, %d taken: Has(%d) %t", class, n, other, got)
				}
			}
			if b.p.Used() != 1 {
				t.Errorf("class %d: Used %d", class, b.p.Used())
			}
		}
	}
}

func TestNilZspage(t *testing.T) {
	var p *inner.Page
	r := newRAM(t, 8)
	r.Take(api.Pool)
	if p.Class() != 0 || len(p.Row()) != 0 || p.Many() != 0 || p.Used() != 0 {
		t.Errorf("Class %d, Row %v, Many %d, Used %d", p.Class(), p.Row(), p.Many(), p.Used())
	}
	for _, n := range append(outside(1), 0) {
		if p.Has(n) || p.Give(r, n) || p.Give(nil, n) || p.Write(r, n, []byte{1}) || p.Write(r, n, nil) || p.Write(nil, n, nil) {
			t.Errorf("Has, Give or Write of %d", n)
		}
		for _, many := range append(notMany(64), 0, 1, 64) {
			if got, ok := p.Read(r, n, many); len(got) > 0 || ok {
				t.Errorf("Read(%d, %d): %v, %t", n, many, got, ok)
			}
			if got, ok := p.Read(nil, n, many); len(got) > 0 || ok {
				t.Errorf("Read(nil, %d, %d): %v, %t", n, many, got, ok)
			}
		}
	}
	if n, ok := p.Take(r); n != 0 || ok {
		t.Errorf("Take: %d, %t", n, ok)
	}
	if n, ok := p.Take(nil); n != 0 || ok {
		t.Errorf("Take(nil): %d, %t", n, ok)
	}
	if l, ok := p.List(r); len(l) > 0 || ok {
		t.Errorf("List: %v, %t", l, ok)
	}
	if l, ok := p.List(nil); len(l) > 0 || ok {
		t.Errorf("List(nil): %v, %t", l, ok)
	}
	if p.Close(r) || p.Close(nil) {
		t.Error("Close")
	}
	if r.Touches() != 0 || r.Turns() != 1 || r.Count(api.Free) != 7 {
		t.Error("a call changed the RAM")
	}
}
