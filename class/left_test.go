package class_test

import (
	"testing"

	"gunny/class"
)

// Promise 15.2: Left.

func TestLeftBehindObjects(t *testing.T) {
	for c, size := range sizes() {
		for frames := 1; frames <= 4; frames++ {
			_, want := laid(size, frames)
			if got := class.Left(c, frames); got != want {
				t.Errorf("of %d frames of class %d %d bytes are left, not %d", frames, c, got, want)
			}
		}
	}
}

func TestLeftByHand(t *testing.T) {
	for _, c := range []struct{ class, frames, left int }{
		{0, 1, 0}, {0, 4, 0}, {2, 1, 64}, {2, 2, 128}, {2, 3, 0}, {2, 4, 64}, {32, 1, 1984}, {32, 4, 1600},
		{46, 1, 1088}, {46, 2, 2176}, {46, 3, 256}, {46, 4, 1344}, {51, 4, 3072}, {62, 1, 64}, {62, 4, 256}, {63, 1, 0}, {63, 4, 0},
	} {
		if got := class.Left(c.class, c.frames); got != c.left {
			t.Errorf("of %d frames of class %d %d bytes are left, not %d", c.frames, c.class, got, c.left)
		}
	}
}

func TestNothingLeftOfFramesThatMayNotBe(t *testing.T) {
	for _, frames := range noFrames {
		for c := range 64 {
			if got := class.Left(c, frames); got != 0 {
				t.Errorf("of %d frames of class %d %d bytes are left", frames, c, got)
			}
		}
	}
}

func TestNothingLeftOfNoClass(t *testing.T) {
	for _, c := range noClasses {
		for _, frames := range append([]int{1, 2, 3, 4}, noFrames...) {
			if got := class.Left(c, frames); got != 0 {
				t.Errorf("of %d frames of %d, which is no class, %d bytes are left", frames, c, got)
			}
		}
	}
}
