package frames_test

import (
	"slices"
	"testing"

	"gunny/api"
	"gunny/frames"
)

// Promise 5.2.

// laid is 8 frames, of which User has 0, 3 and 5, Table 1, Pool 2 and 6; 4 and
// 7 are Free.
func laid(t *testing.T) *frames.Frames {
	t.Helper()
	f, _ := newFrames(t, 8)
	for n, owner := range []int{api.User, api.Table, api.Pool, api.User, api.Pool, api.User, api.Pool} {
		if got, ok := f.Take(owner); got != n || !ok {
			t.Fatalf("Take(%d): %d, %t", owner, got, ok)
		}
	}
	if !f.Give(4) {
		t.Fatal("Give(4): false")
	}
	return f
}

func TestOwner(t *testing.T) {
	f := laid(t)
	for n, want := range []int{1, 2, 3, 1, 0, 1, 3, 0} {
		if got := f.Owner(n); got != want {
			t.Errorf("Owner(%d): %d, not %d", n, got, want)
		}
	}
	for _, n := range outside(8) {
		if got := f.Owner(n); got != api.Free {
			t.Errorf("Owner(%d): %d", n, got)
		}
	}
}

func TestOwnerOfNone(t *testing.T) {
	everyState(t, func(t *testing.T, f *frames.Frames, p *plain) {
		for _, n := range outside(len(p.owner)) {
			if n >= 0 && n < len(p.owner) {
				continue
			}
			if got := f.Owner(n); got != api.Free {
				t.Errorf("Owner(%d): %d", n, got)
			}
		}
	})
}

func TestCount(t *testing.T) {
	cases := []struct {
		name   string
		owners []int
		want   int
	}{
		{"no owner", nil, 0},
		{"no owner, empty", []int{}, 0},
		{"Free", []int{api.Free}, 2},
		{"User", []int{api.User}, 3},
		{"Table", []int{api.Table}, 1},
		{"Pool", []int{api.Pool}, 2},
		{"two", []int{api.User, api.Pool}, 5},
		{"two, falling", []int{api.Pool, api.User}, 5},
		{"three", []int{api.Table, api.User, api.Pool}, 6},
		{"Free and another", []int{api.Table, api.Free}, 3},
		{"all", []int{api.Free, api.User, api.Table, api.Pool}, 8},
		{"one twice", []int{api.User, api.User}, 3},
		{"one thrice", []int{api.Free, api.Free, api.Free}, 2},
		{"two, one of them twice", []int{api.User, api.Pool, api.User}, 5},
		{"two, both twice", []int{api.Pool, api.Table, api.Pool, api.Table}, 3},
		{"none such", []int{4}, 0},
		{"none such below", []int{-1}, 0},
		{"one, and none such", []int{-1, api.Pool, 4}, 2},
		{"none such, and none such", []int{17, 17, -3}, 0},
	}
	f := laid(t)
	for _, c := range cases {
		if got := f.Count(c.owners...); got != c.want {
			t.Errorf("%s: %d, not %d", c.name, got, c.want)
		}
	}
}

func TestCountOfNoOwners(t *testing.T) {
	everyState(t, func(t *testing.T, f *frames.Frames, p *plain) {
		for _, owner := range noOwners {
			if got := f.Count(owner); got != 0 {
				t.Errorf("Count(%d): %d", owner, got)
			}
			if got, want := f.Count(owner, api.User, owner), p.count(api.User); got != want {
				t.Errorf("Count(%d, User): %d, not %d", owner, got, want)
			}
		}
		if got := f.Count(noOwners...); got != 0 {
			t.Errorf("Count of all that are none: %d", got)
		}
		isAs(t, f, p)
	})
}

func TestCountOfMany(t *testing.T) {
	f := laid(t)
	owners := make([]int, 10000)
	for at := range owners {
		owners[at] = at%7 - 2
	}
	if got := f.Count(owners...); got != 8 {
		t.Errorf("%d", got)
	}
}

func TestCountLeavesOwnersAsTheyWere(t *testing.T) {
	f := laid(t)
	room := []int{3, 1, -1, 3, 9, 0}
	owners := room[:4]
	f.Count(owners...)
	if !slices.Equal(room, []int{3, 1, -1, 3, 9, 0}) {
		t.Errorf("%d", room)
	}
}

func TestOf(t *testing.T) {
	f := laid(t)
	for owner, want := range [][]int{{4, 7}, {0, 3, 5}, {1}, {2, 6}} {
		if got := f.Of(owner); !slices.Equal(got, want) {
			t.Errorf("Of(%d): %d, not %d", owner, got, want)
		}
	}
	for _, owner := range noOwners {
		if got := f.Of(owner); len(got) != 0 {
			t.Errorf("Of(%d): %d", owner, got)
		}
	}
}

// The order in which frames were taken, or given, isn't told by Of.
func TestOfIsRising(t *testing.T) {
	f, p := newFrames(t, 96)
	for range 96 {
		take(t, f, p, api.Pool)
	}
	for at := range 60 {
		give(t, f, p, at*35%96)
	}
	for range 20 {
		take(t, f, p, api.User)
	}
	for owner := range 4 {
		if got := f.Of(owner); !slices.IsSorted(got) || len(got) != f.Count(owner) {
			t.Errorf("Of(%d): %d", owner, got)
		}
	}
	isAs(t, f, p)
}

func TestOfIsNewMemory(t *testing.T) {
	everyState(t, func(t *testing.T, f *frames.Frames, p *plain) {
		for owner := range 4 {
			got := f.Of(owner)
			for at := range got {
				got[at] = 50
			}
			got = append(got, 3)
			got[0] = 1
		}
		isAs(t, f, p)
	})
}

func TestOfStaysAsTold(t *testing.T) {
	f, p := newFrames(t, 8)
	take(t, f, p, api.User)
	take(t, f, p, api.User)
	users, free := f.Of(api.User), f.Of(api.Free)
	give(t, f, p, 0)
	take(t, f, p, api.Table)
	take(t, f, p, api.Table)
	if !slices.Equal(users, []int{0, 1}) || !slices.Equal(free, []int{2, 3, 4, 5, 6, 7}) {
		t.Errorf("%d, %d", users, free)
	}
}

func TestTurns(t *testing.T) {
	f, _ := frames.New(8)
	steps := []struct {
		name string
		do   func()
		want int
	}{
		{"at first", func() {}, 0},
		{"Give of one that is Free", func() { f.Give(3) }, 0},
		{"Take for Free", func() { f.Take(api.Free) }, 0},
		{"Take for none such", func() { f.Take(4) }, 0},
		{"Take", func() { f.Take(api.User) }, 1},
		{"Take", func() { f.Take(api.Pool) }, 2},
		{"Give", func() { f.Give(0) }, 3},
		{"Give once more", func() { f.Give(0) }, 3},
		{"Give of none", func() { f.Give(8); f.Give(-1) }, 3},
		{"Take again", func() { f.Take(api.Table) }, 4},
		{"asking", func() { f.Many(); f.Owner(0); f.Count(0, 1); f.Of(1); f.Turns() }, 4},
		{"Take of all", func() {
			for range 6 {
				f.Take(api.User)
			}
		}, 10},
		{"one more", func() { f.Take(api.User) }, 10},
		{"Give of all", func() {
			for n := range 8 {
				f.Give(n)
			}
		}, 18},
		{"Give of all once more", func() {
			for n := range 8 {
				f.Give(n)
			}
		}, 18},
	}
	for _, step := range steps {
		step.do()
		if got := f.Turns(); got != step.want {
			t.Fatalf("%s: %d, not %d", step.name, got, step.want)
		}
	}
}

func TestAskingChangesNothing(t *testing.T) {
	everyState(t, func(t *testing.T, f *frames.Frames, p *plain) {
		for range 2 {
			tellsSame(t, f, p)
			for _, n := range outside(len(p.owner)) {
				f.Owner(n)
				f.Of(n)
				f.Count(n, 1)
			}
		}
		isAs(t, f, p)
	})
}
