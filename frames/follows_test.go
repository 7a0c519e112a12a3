package frames_test

import (
	"slices"
	"testing"

	"gunny/api"
	"gunny/frames"
)

// Promise 5.3.

// oneOwnerEach fails if a frame has none of the four owners, or several of them.
func oneOwnerEach(t *testing.T, f *frames.Frames) {
	t.Helper()
	var all []int
	many := 0
	for owner := range 4 {
		of := f.Of(owner)
		for _, n := range of {
			if f.Owner(n) != owner {
				t.Fatalf("frame %d is of %d, and of %d", n, owner, f.Owner(n))
			}
		}
		if len(of) != f.Count(owner) {
			t.Fatalf("Of(%d): %d, but Count: %d", owner, of, f.Count(owner))
		}
		all = append(all, of...)
		many += f.Count(owner)
	}
	slices.Sort(all)
	if many != f.Many() || len(slices.Compact(all)) != f.Many() || f.Count(0, 1, 2, 3) != f.Many() {
		t.Fatalf("frames with owners: %d of %d", all, f.Many())
	}
}

func TestEachFrameHasOneOwner(t *testing.T) {
	everyState(t, func(t *testing.T, f *frames.Frames, p *plain) {
		oneOwnerEach(t, f)
		isAs(t, f, p)
		oneOwnerEach(t, f)
	})
}

func TestNobodyHasWhatIsTaken(t *testing.T) {
	f, _ := frames.New(13)
	had := map[int]int{}
	next := steps(5)
	for range 5000 {
		owner := takers[next()%3]
		if n, ok := f.Take(owner); ok {
			if of, taken := had[n]; taken {
				t.Fatalf("frame %d is taken for %d, but %d has it", n, owner, of)
			}
			had[n] = owner
		} else if len(had) != 13 {
			t.Fatalf("none is Free, but %d are taken", len(had))
		}
		if n := next() % 13; next()%4 > 0 && f.Give(n) {
			delete(had, n)
		}
		for n := range 13 {
			if f.Owner(n) != had[n] {
				t.Fatalf("frame %d is of %d, not of %d", n, f.Owner(n), had[n])
			}
		}
	}
}

func TestFramesAreApart(t *testing.T) {
	a, p := newFrames(t, 8)
	b, q := newFrames(t, 8)
	take(t, a, p, api.User)
	take(t, a, p, api.Pool)
	take(t, b, q, api.Table)
	give(t, a, p, 0)
	take(t, b, q, api.Table)
	give(t, b, q, 1)
	isAs(t, a, p)
	isAs(t, b, q)
}

// TestEveryShortRow does every row of a few steps beside the plain frames.
func TestEveryShortRow(t *testing.T) {
	row := []int{} // up to 2: Take for that of takers; else Give of 3 less
	var follow func()
	follow = func() {
		f, p := newFrames(t, 8)
		for _, step := range row {
			if step < len(takers) {
				take(t, f, p, takers[step])
			} else {
				give(t, f, p, step-len(takers))
			}
		}
		isAs(t, f, p)
		if len(row) == 5 {
			return
		}
		for step := range len(takers) + 4 {
			row = append(row, step)
			follow()
			row = row[:len(row)-1]
		}
	}
	follow()
}

// TestManySteps does a long row of steps, always the same one, beside the plain frames.
func TestManySteps(t *testing.T) {
	for _, many := range manies {
		f, p := newFrames(t, many)
		next := steps(many)
		for at := range 5000 {
			owner, n := next()%6-1, next()%(many+4)-2
			if wave := at / (2 * many) % 2; next()%5 < 2+wave {
				take(t, f, p, owner)
			} else {
				give(t, f, p, n)
			}
			if at%8 == 0 {
				tellsSame(t, f, p)
			}
		}
		oneOwnerEach(t, f)
		isAs(t, f, p)
	}
}

// steps is a row of numbers from 0 on that is always the same one for a seed.
func steps(from int) func() int {
	seed := uint32(from)
	return func() int {
		seed = seed*1664525 + 1013904223
		return int(seed >> 8)
	}
}
