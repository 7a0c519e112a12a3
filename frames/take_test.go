package frames_test

import (
	"math"
	"slices"
	"testing"

	"gunny/api"
	"gunny/frames"
)

// Promise 5.1.

func TestExample(t *testing.T) {
	f, err := frames.New(8)
	if err != api.OK {
		t.Fatal(err)
	}
	if n, ok := f.Take(api.User); n != 0 || !ok {
		t.Fatalf("Take for User: %d, %t", n, ok)
	}
	if n, ok := f.Take(api.Table); n != 1 || !ok {
		t.Fatalf("Take for Table: %d, %t", n, ok)
	}
	if !f.Give(0) {
		t.Fatal("Give(0): false")
	}
	if n, ok := f.Take(api.Pool); n != 0 || !ok {
		t.Fatalf("Take for Pool: %d, %t", n, ok)
	}
	if n, ok := f.Take(api.User); n != 2 || !ok {
		t.Fatalf("Take for User: %d, %t", n, ok)
	}
}

func TestNewKeepsWithinBounds(t *testing.T) {
	for many := -200; many <= 300; many++ {
		newIsAs(t, many)
	}
	for _, many := range []int{
		math.MinInt, math.MinInt + 8, -1 << 62, -1 << 32, -1<<32 + 8, -1 << 31,
		1 << 31, 1 << 32, 1<<32 + 8, 1<<32 + 96, 1 << 62, 1<<62 + 8, math.MaxInt - 1, math.MaxInt,
	} {
		newIsAs(t, many)
	}
}

func newIsAs(t *testing.T, many int) {
	t.Helper()
	f, err := frames.New(many)
	if many < 8 || many > 96 {
		if f != nil || err != api.ErrArg {
			t.Errorf("New(%d): %v, %v", many, f, err)
		}
		return
	}
	if f == nil || err != api.OK || f.Many() != many {
		t.Fatalf("New(%d): %v, %v", many, f, err)
	}
}

func TestAtFirst(t *testing.T) {
	for many := 8; many <= 96; many++ {
		f, p := newFrames(t, many)
		if f.Many() != many || f.Count(api.Free) != many || f.Turns() != 0 {
			t.Errorf("of %d: Many %d, Free %d, Turns %d", many, f.Many(), f.Count(api.Free), f.Turns())
		}
		isAs(t, f, p)
	}
}

func TestFramesAreTakenRisingAtFirst(t *testing.T) {
	for _, many := range manies {
		for _, owner := range takers {
			f, _ := newFrames(t, many)
			for want := range many {
				if n, ok := f.Take(owner); n != want || !ok || f.Owner(want) != owner {
					t.Fatalf("of %d, Take(%d): %d, %t, of %d", many, owner, n, ok, f.Owner(want))
				}
			}
		}
	}
}

func TestNoneIsLeft(t *testing.T) {
	for _, many := range manies {
		f, p := newFrames(t, many)
		takeAll(t, f, p)
		for _, owner := range takers {
			for range 2 {
				if n, ok := f.Take(owner); n != 0 || ok {
					t.Fatalf("of %d, one more for %d: %d, %t", many, owner, n, ok)
				}
			}
		}
		tellsSame(t, f, p)
		give(t, f, p, many-1)
		if n, ok := f.Take(api.Pool); n != many-1 || !ok {
			t.Fatalf("of %d, the one that was given: %d, %t", many, n, ok)
		}
	}
}

func TestOnlyOwnersTake(t *testing.T) {
	everyState(t, func(t *testing.T, f *frames.Frames, p *plain) {
		for _, owner := range append(slices.Clone(noOwners), api.Free) {
			if n, ok := f.Take(owner); n != 0 || ok {
				t.Errorf("Take(%d): %d, %t", owner, n, ok)
			}
		}
		isAs(t, f, p)
	})
}

func TestGiveAndTakeAgain(t *testing.T) {
	for _, many := range manies {
		for n := range many {
			f, p := newFrames(t, many)
			takeAll(t, f, p)
			if !f.Give(n) || f.Owner(n) != api.Free || !p.give(n) {
				t.Fatalf("of %d, Give(%d)", many, n)
			}
			tellsSame(t, f, p)
			if f.Give(n) {
				t.Fatalf("of %d, Give(%d) once more: true", many, n)
			}
			tellsSame(t, f, p)
			for _, owner := range takers {
				if got := take(t, f, p, owner); got != n {
					t.Fatalf("of %d, Take behind Give(%d): %d", many, n, got)
				}
				give(t, f, p, n)
			}
			isAs(t, f, p)
		}
	}
}

func TestLastGivenIsTakenFirst(t *testing.T) {
	cases := []struct {
		name  string
		given []int
		taken []int
	}{
		{"rising", []int{1, 2, 3}, []int{3, 2, 1, 5, 6, 7}},
		{"falling", []int{4, 2, 0}, []int{0, 2, 4, 5, 6, 7}},
		{"mixed", []int{3, 0, 4, 1}, []int{1, 4, 0, 3, 5, 6, 7}},
		{"the ends", []int{4, 0}, []int{0, 4, 5, 6, 7}},
		{"all", []int{2, 4, 1, 3, 0}, []int{0, 3, 1, 4, 2, 5, 6, 7}},
	}
	for _, back := range cases {
		t.Run(back.name, func(t *testing.T) {
			f, p := newFrames(t, 8)
			for range 5 {
				take(t, f, p, api.User)
			}
			for _, n := range back.given {
				if !f.Give(n) {
					t.Fatalf("Give(%d): false", n)
				}
			}
			for _, want := range back.taken {
				if n, ok := f.Take(api.Table); n != want || !ok {
					t.Fatalf("Take: %d, %t, not %d", n, ok, want)
				}
			}
			if n, ok := f.Take(api.Table); n != 0 || ok {
				t.Fatalf("Take behind all: %d, %t", n, ok)
			}
		})
	}
}

// A frame that is given, taken and given once more counts from its last time on.
func TestLastTimeCounts(t *testing.T) {
	f, p := newFrames(t, 8)
	for range 8 {
		take(t, f, p, api.Pool)
	}
	for _, n := range []int{5, 6} {
		give(t, f, p, n)
	}
	take(t, f, p, api.User)
	take(t, f, p, api.User)
	for _, n := range []int{6, 5} {
		give(t, f, p, n)
	}
	for _, want := range []int{5, 6} {
		if n, ok := f.Take(api.Table); n != want || !ok {
			t.Fatalf("%d, %t, not %d", n, ok, want)
		}
	}
}

func TestGiveOfNoneChangesNothing(t *testing.T) {
	everyState(t, func(t *testing.T, f *frames.Frames, p *plain) {
		for _, n := range outside(len(p.owner)) {
			if n >= 0 && n < len(p.owner) {
				continue
			}
			if f.Give(n) {
				t.Errorf("Give(%d): true", n)
			}
		}
		isAs(t, f, p)
	})
}

func TestGiveOfFreeChangesNothing(t *testing.T) {
	everyState(t, func(t *testing.T, f *frames.Frames, p *plain) {
		for n, owner := range p.owner {
			if owner == api.Free && f.Give(n) {
				t.Errorf("Give(%d), which is Free: true", n)
			}
		}
		isAs(t, f, p)
	})
}

func TestNilFrames(t *testing.T) {
	var f *frames.Frames
	for range 2 {
		if f.Many() != 0 || f.Turns() != 0 {
			t.Errorf("Many %d, Turns %d", f.Many(), f.Turns())
		}
		for _, owner := range append(slices.Clone(noOwners), 0, 1, 2, 3) {
			if n, ok := f.Take(owner); n != 0 || ok {
				t.Errorf("Take(%d): %d, %t", owner, n, ok)
			}
			if got := f.Of(owner); len(got) != 0 {
				t.Errorf("Of(%d): %d", owner, got)
			}
			if got := f.Count(owner); got != 0 {
				t.Errorf("Count(%d): %d", owner, got)
			}
		}
		if f.Count() != 0 || f.Count(0, 1, 2, 3) != 0 || f.Count(noOwners...) != 0 {
			t.Error("Count of none, of all, or of no owners")
		}
		for _, n := range append(outside(8), 0, 1, 7, 95) {
			if f.Give(n) || f.Owner(n) != api.Free {
				t.Errorf("Give(%d), or its owner %d", n, f.Owner(n))
			}
		}
	}
}
