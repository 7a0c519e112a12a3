package pool_test

import (
	"testing"

	"gunny/api"
)

// Promise 20.1: Need

func TestNeedOfAnEmptyPool(t *testing.T) {
	b := newPair(t, 8)
	for _, c := range []struct{ n, frames int }{{1, 1}, {64, 1}, {65, 1}, {128, 1}, {129, 3}, {1024, 1}, {2000, 1}, {3008, 3}, {4095, 1}, {4096, 1}} {
		if got := b.p.Need(c.n); got != c.frames {
			t.Errorf("Need(%d): %d, not %d", c.n, got, c.frames)
		}
	}
	for _, n := range lengths() {
		if b.need(n) == 0 {
			t.Errorf("Need(%d): 0", n)
		}
	}
}

func TestNeedOfNoLength(t *testing.T) {
	everyFilling(t, func(b *pair) {
		for _, n := range noLengths() {
			if got := b.p.Need(n); got != 0 {
				b.Fatalf("Need(%d): %d", n, got)
			}
		}
	})
}

func TestNeedOfEachLength(t *testing.T) {
	everyFilling(t, func(b *pair) {
		b.changesNothing("Need", func() {
			b.Helper()
			for _, n := range lengths() {
				b.need(n)
			}
		})
	})
}

// As many frames as it says are taken by the Alloc that follows.
func TestNeedIsWhatAllocTakes(t *testing.T) {
	for _, many := range lengths() {
		for _, f := range fillings {
			if f.frames != 24 && f.name != "empty" {
				continue
			}
			b := newPair(t, f.frames)
			f.lay(b)
			need, free := b.p.Need(many), b.r.Count(api.Free)
			if _, err := b.p.Alloc(pattern(many, 1)); err != api.OK {
				if need == 0 || need <= free {
					t.Fatalf("%s: Need(%d) is %d of %d, and %v", f.name, many, need, free, err)
				}
				continue
			}
			if got := free - b.r.Count(api.Free); got != need {
				t.Fatalf("%s: Need(%d): %d, and %d are taken", f.name, many, need, got)
			}
			if got := b.p.Need(many); plainMany(plainClass(many)) > 1 && need > 0 && got != 0 {
				t.Fatalf("%s: Need(%d) behind that: %d", f.name, many, got)
			}
		}
	}
}

// Of each class: its zspage has room, is full, and has room anew.
func TestNeedAsAZspageFills(t *testing.T) {
	for class := range 64 {
		b := newPair(t, 16)
		for n := range plainMany(class) {
			want := 0
			if n == 0 {
				want = plainFrames(class)
			}
			for _, many := range []int{plainSize(class) - 63, plainSize(class)} {
				if got := b.p.Need(many); got != want {
					t.Fatalf("class %d with %d objects: Need(%d): %d, not %d", class, n, many, got, want)
				}
			}
			b.put(plainSize(class), n)
		}
		if got := b.p.Need(plainSize(class)); got != plainFrames(class) {
			t.Fatalf("class %d, all of which are taken: %d", class, got)
		}
		b.free(1)
		want := 0
		if plainMany(class) == 1 {
			want = plainFrames(class)
		}
		if got := b.p.Need(plainSize(class)); got != want {
			t.Fatalf("class %d, one of which is freed: %d, not %d", class, got, want)
		}
	}
}

// It tells what would be needed, though there are no frames, or no handles.
func TestNeedWhereNothingIsFree(t *testing.T) {
	b := newPair(t, 8)
	b.lay(15, 4, 3)
	b.others(0)
	if b.p.Need(1024) != 0 || b.p.Need(64) != 1 || b.p.Need(3008) != 3 {
		t.Errorf("%d, %d, %d", b.p.Need(1024), b.p.Need(64), b.p.Need(3008))
	}
	b = newPair(t, 8)
	b.lay(0, 64, 64, 64, 64, 64, 64, 64, 64)
	if b.p.Need(64) != 1 || b.p.Need(3008) != 3 {
		t.Errorf("of 512 handles: %d, %d", b.p.Need(64), b.p.Need(3008))
	}
}
