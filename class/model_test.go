package class_test

import "math"

// Numbers that are no class.
var noClasses = []int{math.MinInt, math.MinInt + 1, math.MinInt + 63, -1 << 32, -4096, -65, -64, -63, -2, -1, 64, 65, 127, 128, 4096, 1 << 32, 1<<32 + 46, 1 << 58, 1 << 62, math.MaxInt - 1, math.MaxInt}

// Numbers of frames that a zspage can't have.
var noFrames = []int{math.MinInt, math.MinInt + 1, math.MinInt + 4, -1 << 32, -4, -3, -2, -1, 0, 5, 6, 7, 8, 64, 1 << 32, 1<<32 + 3, 1 << 50, 1 << 52, 1<<52 + 1, 1 << 62, math.MaxInt - 1, math.MaxInt}

// sizes are the bytes of each class's objects, counted up.
func sizes() []int {
	var out []int
	for size := 64; size <= 4096; size += 64 {
		out = append(out, size)
	}
	return out
}

// laid is how many objects of that size stand in so many frames, laid one
// behind the other, and how many bytes are left behind the last one.
func laid(size, frames int) (many, left int) {
	left = frames * 4096
	for left >= size {
		left -= size
		many++
	}
	return many, left
}

// fewest is the fewest frames of which the least part is left over. Parts are
// told in twelfths of a byte a frame, which are whole numbers of 1 to 4 frames.
func fewest(size int) int {
	best, least := 0, math.MaxInt
	for frames := 1; frames <= 4; frames++ {
		if _, left := laid(size, frames); left*12/frames < least {
			best, least = frames, left*12/frames
		}
	}
	return best
}
