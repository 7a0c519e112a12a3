package class_test

import (
	"math"
	"testing"

	"gunny/class"
)

// Promise 15.1: Of, Size, Frames, Objects.

func TestOfIsTheLeastThatHasRoom(t *testing.T) {
	all := sizes()
	for n := 1; n <= 4096; n++ {
		want := 0
		for all[want] < n {
			want++
		}
		if got, ok := class.Of(n); got != want || !ok {
			t.Errorf("of %d bytes: class %d, %v, not %d", n, got, ok, want)
		}
	}
}

func TestOfAtEdges(t *testing.T) {
	for _, c := range []struct{ n, class int }{
		{1, 0}, {63, 0}, {64, 0}, {65, 1}, {128, 1}, {129, 2}, {2000, 31}, {2048, 31}, {2049, 32},
		{2944, 45}, {2945, 46}, {3008, 46}, {3009, 47}, {4032, 62}, {4033, 63}, {4095, 63}, {4096, 63},
	} {
		if got, ok := class.Of(c.n); got != c.class || !ok {
			t.Errorf("of %d bytes: class %d, %v, not %d", c.n, got, ok, c.class)
		}
	}
}

func TestOfNoBytesThatHaveRoom(t *testing.T) {
	for _, n := range []int{math.MinInt, math.MinInt + 1, -1 << 32, -4096, -64, -63, -2, -1, 0, 4097, 4098, 4160, 8192, 1 << 32, 1<<32 + 1, 1 << 62, math.MaxInt - 1, math.MaxInt} {
		if got, ok := class.Of(n); got != 0 || ok {
			t.Errorf("of %d bytes: class %d, %v", n, got, ok)
		}
	}
}

func TestSize(t *testing.T) {
	all := sizes()
	if len(all) != 64 {
		t.Fatalf("%d classes", len(all))
	}
	for c, want := range all {
		if got := class.Size(c); got != want {
			t.Errorf("class %d has objects of %d bytes, not %d", c, got, want)
		}
	}
}

func TestFramesAreTheFewestOfWhichTheLeastPartIsLeft(t *testing.T) {
	for c, size := range sizes() {
		if got, want := class.Frames(c), fewest(size); got != want {
			t.Errorf("class %d has %d frames, not %d", c, got, want)
		}
	}
}

func TestObjectsAreAsManyAsThereIsRoomFor(t *testing.T) {
	for c, size := range sizes() {
		want, _ := laid(size, fewest(size))
		if got := class.Objects(c); got != want {
			t.Errorf("class %d has %d objects, not %d", c, got, want)
		}
	}
}

// Classes counted by hand, the chapter's example among them: those of which
// nothing is left over, those of which the same part is left of several numbers
// of frames, and those that take each number of frames.
func TestClassesByHand(t *testing.T) {
	for _, c := range []struct{ class, size, frames, objects int }{
		{0, 64, 1, 64}, {1, 128, 1, 32}, {2, 192, 3, 64}, {4, 320, 4, 51}, {6, 448, 1, 9}, {13, 896, 2, 9},
		{15, 1024, 1, 4}, {24, 1600, 2, 5}, {28, 1856, 1, 2}, {31, 2048, 1, 2}, {32, 2112, 4, 7}, {41, 2688, 2, 3},
		{46, 3008, 3, 4}, {47, 3072, 3, 4}, {48, 3136, 4, 5}, {50, 3264, 4, 5}, {51, 3328, 1, 1}, {62, 4032, 1, 1}, {63, 4096, 1, 1},
	} {
		size, frames, objects := class.Size(c.class), class.Frames(c.class), class.Objects(c.class)
		if size != c.size || frames != c.frames || objects != c.objects {
			t.Errorf("class %d: objects of %d bytes, %d frames, %d objects, not %d, %d, %d", c.class, size, frames, objects, c.size, c.frames, c.objects)
		}
	}
}

func TestNoClassHasNothing(t *testing.T) {
	for _, c := range noClasses {
		if size, frames, objects := class.Size(c), class.Frames(c), class.Objects(c); size != 0 || frames != 0 || objects != 0 {
			t.Errorf("%d is no class: objects of %d bytes, %d frames, %d objects", c, size, frames, objects)
		}
	}
}
