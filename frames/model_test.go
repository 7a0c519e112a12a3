package frames_test

import (
	"math"
	"slices"
	"strconv"
	"testing"

	"gunny/api"
	"gunny/frames"
)

// manies are how many frames there may be: the ends, and some between.
var manies = []int{8, 9, 13, 64, 95, 96}

// takers are the owners that take frames.
var takers = []int{api.User, api.Table, api.Pool}

// noOwners are numbers that are no owners.
var noOwners = []int{
	math.MinInt, math.MinInt + 1, math.MinInt + 3, -1 << 62, -1 << 32, -1<<32 + 1, -1 << 31, -256, -255, -3, -2, -1,
	4, 5, 7, 8, 9, 255, 256, 257, 1<<31 - 1, 1 << 31, 1<<31 + 1, 1 << 32, 1<<32 + 1, 1<<32 + 3, 1 << 62, 1<<62 + 2,
	math.MaxInt - 1, math.MaxInt,
}

// outside are numbers of which so many frames have none.
func outside(many int) []int {
	return []int{
		math.MinInt, math.MinInt + 1, -1 << 62, -1 << 32, -1<<32 + 1, -1 << 31, -256, -97, -96, -many - 1, -many, -2, -1,
		many, many + 1, many + 2, 2 * many, 96, 97, 128, 256, 257,
		1 << 31, 1 << 32, 1<<32 + 1, 1 << 62, math.MaxInt - 1, math.MaxInt,
	}
}

// plain is frames as a book of when each was given back last: the one to be
// taken is searched for by that, so that it shares no way of working with frames.
type plain struct {
	owner []int
	given []int
	now   int
	turns int
}

func newPlain(many int) *plain {
	p := &plain{owner: make([]int, many), given: make([]int, many)}
	for n := many - 1; n >= 0; n-- {
		p.now++
		p.given[n] = p.now
	}
	return p
}

// next is the frame that is Free and was given back last; -1, if none is.
func (p *plain) next() int {
	best := -1
	for n, owner := range p.owner {
		if owner == api.Free && (best < 0 || p.given[n] > p.given[best]) {
			best = n
		}
	}
	return best
}

func (p *plain) take(owner int) (int, bool) {
	n := p.next()
	if n < 0 || !slices.Contains(takers, owner) {
		return 0, false
	}
	p.owner[n] = owner
	p.turns++
	return n, true
}

func (p *plain) give(n int) bool {
	if n < 0 || n >= len(p.owner) || p.owner[n] == api.Free {
		return false
	}
	p.owner[n] = api.Free
	p.now++
	p.given[n] = p.now
	p.turns++
	return true
}

func (p *plain) of(owner int) []int {
	var out []int
	for n, of := range p.owner {
		if of == owner {
			out = append(out, n)
		}
	}
	return out
}

func (p *plain) count(owners ...int) int {
	many := 0
	for _, owner := range p.owner {
		if slices.Contains(owners, owner) {
			many++
		}
	}
	return many
}

// newFrames is frames at first, and the plain ones.
func newFrames(t *testing.T, many int) (*frames.Frames, *plain) {
	t.Helper()
	f, err := frames.New(many)
	if f == nil || err != api.OK {
		t.Fatalf("New(%d): %v, %v", many, f, err)
	}
	return f, newPlain(many)
}

// take fails if a frame is taken otherwise than of the plain ones.
func take(t *testing.T, f *frames.Frames, p *plain, owner int) int {
	t.Helper()
	got, ok := f.Take(owner)
	if want, wantOK := p.take(owner); got != want || ok != wantOK {
		t.Fatalf("Take(%d): %d, %t, not %d, %t", owner, got, ok, want, wantOK)
	}
	return got
}

// give fails if a frame is given otherwise than to the plain ones.
func give(t *testing.T, f *frames.Frames, p *plain, n int) {
	t.Helper()
	if got, want := f.Give(n), p.give(n); got != want {
		t.Fatalf("Give(%d): %t", n, got)
	}
}

// tellsSame fails if frames tell anything else than the plain ones. In which
// order those that are Free will be taken they don't tell: see isAs.
func tellsSame(t *testing.T, f *frames.Frames, p *plain) {
	t.Helper()
	if f.Many() != len(p.owner) {
		t.Fatalf("Many: %d, not %d", f.Many(), len(p.owner))
	}
	if f.Turns() != p.turns {
		t.Fatalf("Turns: %d, not %d", f.Turns(), p.turns)
	}
	for n, want := range p.owner {
		if got := f.Owner(n); got != want {
			t.Fatalf("Owner(%d): %d, not %d", n, got, want)
		}
	}
	for owner := range 4 {
		if got, want := f.Of(owner), p.of(owner); !slices.Equal(got, want) {
			t.Fatalf("Of(%d): %d, not %d", owner, got, want)
		}
	}
	for some := range 1 << 4 {
		var owners []int
		for owner := range 4 {
			if some>>owner&1 == 1 {
				owners = append(owners, owner)
			}
		}
		if got, want := f.Count(owners...), p.count(owners...); got != want {
			t.Fatalf("Count(%d): %d, not %d", owners, got, want)
		}
	}
}

// isAs fails if frames tell anything else than the plain ones, or take those
// that are Free in another order. It takes all that are Free: no more can be
// asked of these frames then.
func isAs(t *testing.T, f *frames.Frames, p *plain) {
	t.Helper()
	tellsSame(t, f, p)
	for p.next() >= 0 {
		take(t, f, p, api.User)
	}
	tellsSame(t, f, p)
	take(t, f, p, api.User)
	tellsSame(t, f, p)
}

// state is a name, and what is done to frames at first to come to it.
type state struct {
	name string
	lay  func(t *testing.T, f *frames.Frames, p *plain)
}

var states = []state{
	{"at first", func(*testing.T, *frames.Frames, *plain) {}},
	{"one taken", func(t *testing.T, f *frames.Frames, p *plain) {
		take(t, f, p, api.Table)
	}},
	{"one left", func(t *testing.T, f *frames.Frames, p *plain) {
		for n := range len(p.owner) - 1 {
			take(t, f, p, takers[n%3])
		}
	}},
	{"all taken", takeAll},
	{"all taken, all given rising", func(t *testing.T, f *frames.Frames, p *plain) {
		takeAll(t, f, p)
		for n := range len(p.owner) {
			give(t, f, p, n)
		}
	}},
	{"all taken, every third given", func(t *testing.T, f *frames.Frames, p *plain) {
		takeAll(t, f, p)
		for at := range len(p.owner) {
			if n := at * 5 % len(p.owner); n%3 == 0 {
				give(t, f, p, n)
			}
		}
	}},
	{"some given and taken again", func(t *testing.T, f *frames.Frames, p *plain) {
		for range 6 {
			take(t, f, p, api.User)
		}
		for _, n := range []int{1, 4, 2} {
			give(t, f, p, n)
		}
		take(t, f, p, api.Pool)
	}},
}

func takeAll(t *testing.T, f *frames.Frames, p *plain) {
	t.Helper()
	for n := range len(p.owner) {
		take(t, f, p, takers[n%3])
	}
}

func everyState(t *testing.T, do func(t *testing.T, f *frames.Frames, p *plain)) {
	for _, many := range manies {
		for _, s := range states {
			t.Run(strconv.Itoa(many)+" "+s.name, func(t *testing.T) {
				f, p := newFrames(t, many)
				s.lay(t, f, p)
				tellsSame(t, f, p)
				do(t, f, p)
			})
		}
	}
}
