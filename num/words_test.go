package num_test

import (
	"math"
	"testing"

	"gunny/num"
)

var places = []int{math.MinInt, math.MinInt + 1, -1 << 32, -65, -64, -63, -2, -1, 0, 1, 2, 7, 8, 31, 32, 33, 61, 62, 63, 64, 65, 127, 128, 1 << 32, 1 << 62, math.MaxInt - 1, math.MaxInt}

var widths = []int{math.MinInt, math.MinInt + 1, -64, -1, 0, 1, 2, 3, 8, 31, 32, 33, 62, 63, 64, 65, 66, 127, 128, 1 << 32, 1 << 62, math.MaxInt - 64, math.MaxInt - 63, math.MaxInt - 1, math.MaxInt}

// inPart tells whether a bit of a word lies in a part, by nothing that could wrap round.
func inPart(bit, at, wide int) bool {
	return at >= 0 && at <= 63 && wide >= 1 && bit >= at && bit-at < wide
}

// plainMask, plainCut and plainSet go bit by bit, so that they share no way of working with num.

func plainMask(at, wide int) uint64 {
	var m uint64
	for i := range 64 {
		if inPart(i, at, wide) {
			m |= 1 << i
		}
	}
	return m
}

func plainCut(w uint64, at, wide int) uint64 {
	var out uint64
	for i := range 64 {
		if inPart(i, at, wide) && w>>i%2 == 1 {
			out |= 1 << (i - at)
		}
	}
	return out
}

func plainSet(w uint64, at, wide int, n uint64) uint64 {
	var out uint64
	for i := range 64 {
		bit := w >> i % 2
		if inPart(i, at, wide) {
			bit = n >> (i - at) % 2
		}
		out |= bit << i
	}
	return out
}

// everyPart calls f with all parts within a word, and with places and widths that can't be.
func everyPart(f func(at, wide int)) {
	for at := -2; at <= 66; at++ {
		for wide := -2; wide <= 66; wide++ {
			f(at, wide)
		}
	}
	for _, at := range places {
		for _, wide := range widths {
			f(at, wide)
		}
	}
}

// Promise 1.2, Mask.

func TestMaskExamples(t *testing.T) {
	cases := []struct {
		at, wide int
		want     uint64
	}{
		{0, 1, 1},
		{4, 8, 0xff0},
		{0, 64, math.MaxUint64},
		{0, 63, math.MaxInt64},
		{63, 1, 1 << 63},
		{63, 2, 1 << 63},
		{60, 9, 0xf000000000000000},
		{0, 65, math.MaxUint64},
		{1, 64, math.MaxUint64 - 1},
		{32, math.MaxInt, 0xffffffff00000000},
		{0, math.MaxInt, math.MaxUint64},
		{64, 1, 0},
		{-1, 1, 0},
		{-1, 64, 0},
		{0, 0, 0},
		{63, 0, 0},
		{5, -1, 0},
		{math.MinInt, math.MinInt, 0},
		{math.MaxInt, math.MaxInt, 0},
	}
	for _, c := range cases {
		if got := num.Mask(c.at, c.wide); got != c.want {
			t.Errorf("Mask(%d, %d): %#x, not %#x", c.at, c.wide, got, c.want)
		}
	}
}

func TestMaskOfEveryPart(t *testing.T) {
	everyPart(func(at, wide int) {
		if got, want := num.Mask(at, wide), plainMask(at, wide); got != want {
			t.Errorf("Mask(%d, %d): %#x, not %#x", at, wide, got, want)
		}
	})
}

// Promise 1.2, Cut.

func TestCutExamples(t *testing.T) {
	cases := []struct {
		w        uint64
		at, wide int
		want     uint64
	}{
		{4080, 4, 8, 255},
		{4080, 0, 4, 0},
		{4080, 4, 3, 7},
		{0xf0e1d2c3b4a59687, 0, 64, 0xf0e1d2c3b4a59687},
		{0xf0e1d2c3b4a59687, 60, 4, 15},
		{0xf0e1d2c3b4a59687, 60, 40, 15},
		{math.MaxUint64, 63, 1, 1},
		{math.MaxUint64, 63, math.MaxInt, 1},
		{math.MaxUint64, 64, 1, 0},
		{math.MaxUint64, -1, 8, 0},
		{math.MaxUint64, 0, 0, 0},
		{math.MaxUint64, math.MinInt, math.MaxInt, 0},
	}
	for _, c := range cases {
		if got := num.Cut(c.w, c.at, c.wide); got != c.want {
			t.Errorf("Cut(%#x, %d, %d): %#x, not %#x", c.w, c.at, c.wide, got, c.want)
		}
	}
}

func TestCutOfEveryPart(t *testing.T) {
	everyPart(func(at, wide int) {
		for _, w := range someNumbers {
			if got, want := num.Cut(w, at, wide), plainCut(w, at, wide); got != want {
				t.Errorf("Cut(%#x, %d, %d): %#x, not %#x", w, at, wide, got, want)
			}
		}
	})
}

// Promise 1.2, Set.

func TestSetExamples(t *testing.T) {
	cases := []struct {
		w        uint64
		at, wide int
		n, want  uint64
	}{
		{0, 4, 8, 255, 4080},
		{4080, 4, 8, 0, 0},
		{0xffff, 4, 8, 0x5a, 0xf5af},
		{0, 4, 8, 0x1ff, 4080},
		{7, 0, 64, 9, 9},
		{0, 63, 1, 1, 1 << 63},
		{0, 63, 1, 2, 0},
		{0, 60, 8, 0xff, 0xf000000000000000},
		{0, 60, math.MaxInt, 0xff, 0xf000000000000000},
		{7, 64, 1, 1, 7},
		{7, -1, 1, math.MaxUint64, 7},
		{7, 3, 0, math.MaxUint64, 7},
		{7, 3, -1, math.MaxUint64, 7},
		{7, math.MinInt, math.MaxInt, math.MaxUint64, 7},
		{7, math.MaxInt, math.MaxInt, math.MaxUint64, 7},
	}
	for _, c := range cases {
		if got := num.Set(c.w, c.at, c.wide, c.n); got != c.want {
			t.Errorf("Set(%#x, %d, %d, %#x): %#x, not %#x", c.w, c.at, c.wide, c.n, got, c.want)
		}
	}
}

func TestSetOfEveryPart(t *testing.T) {
	words := []uint64{0, 1, 0xf0e1d2c3b4a59687, 1 << 63, math.MaxUint64}
	everyPart(func(at, wide int) {
		for _, w := range words {
			for _, n := range words {
				if got, want := num.Set(w, at, wide, n), plainSet(w, at, wide, n); got != want {
					t.Errorf("Set(%#x, %d, %d, %#x): %#x, not %#x", w, at, wide, n, got, want)
				}
			}
		}
	})
}

// Promise 1.2, Bit.

func TestBit(t *testing.T) {
	for _, w := range append([]uint64{0xaaaaaaaaaaaaaaaa, 0x5555555555555555}, someNumbers...) {
		for at := range 64 {
			if got, want := num.Bit(w, at), w>>at%2 == 1; got != want {
				t.Errorf("Bit(%#x, %d): %t", w, at, got)
			}
		}
	}
}

func TestBitEdges(t *testing.T) {
	if !num.Bit(1, 0) || num.Bit(1, 1) || !num.Bit(1<<63, 63) || num.Bit(1<<62, 63) {
		t.Error("the first bit, or the last one")
	}
	for _, at := range places {
		if there := at >= 0 && at <= 63; num.Bit(math.MaxUint64, at) != there {
			t.Errorf("Bit(all 1, %d): %t", at, !there)
		}
		if num.Bit(0, at) {
			t.Errorf("Bit(0, %d)", at)
		}
	}
}

// Promise 1.3.

func TestUpExamples(t *testing.T) {
	const top = 1 << 62
	cases := []struct{ n, by, want int }{
		{65, 64, 128},
		{64, 64, 64},
		{63, 64, 64},
		{1, 64, 64},
		{1, 1, 1},
		{7, 1, 7},
		{7, 3, 9},
		{9, 3, 9},
		{4097, 4096, 8192},
		{5, 1000, 1000},
		{0, 64, 0},
		{-1, 64, -1},
		{-65, 64, -65},
		{math.MinInt, 64, math.MinInt},
		{65, 0, 65},
		{65, -1, 65},
		{65, -64, 65},
		{65, math.MinInt, 65},
		{0, 0, 0},
		{math.MinInt, math.MinInt, math.MinInt},
		{math.MinInt, -1, math.MinInt},
		{top - 1, 2, top},
		{top - 1, 64, top},
		{top - 63, 64, top},
		{top - 64, 64, top - 64},
		{1, top, top},
		{top, 1, top},
		{top, top, top},
		{1, top - 1, top - 1},
		{1, top + 1, 1},
		{top - 1, 3, top - 1},
		{top, 3, top},
		{top, 5, top},
		{top + 1, 2, top + 1},
		{top + 1, 1, top + 1},
		{top + 1, top, top + 1},
		{top - 1, top - 2, top - 1},
		{top, math.MaxInt, top},
		{1, math.MaxInt, 1},
		{math.MaxInt, 1, math.MaxInt},
		{math.MaxInt, 2, math.MaxInt},
		{math.MaxInt, math.MaxInt, math.MaxInt},
		{math.MaxInt - 1, math.MaxInt, math.MaxInt - 1},
		{math.MaxInt, math.MaxInt - 1, math.MaxInt},
		{math.MaxInt, math.MinInt, math.MaxInt},
	}
	for _, c := range cases {
		if got := num.Up(c.n, c.by); got != c.want {
			t.Errorf("Up(%d, %d): %d, not %d", c.n, c.by, got, c.want)
		}
	}
}

func TestUpOfSmallNumbers(t *testing.T) {
	for n := -70; n <= 300; n++ {
		for by := -70; by <= 300; by++ {
			want := n
			if n >= 1 && by >= 1 {
				for want = by; want < n; {
					want += by
				}
			}
			if got := num.Up(n, by); got != want {
				t.Errorf("Up(%d, %d): %d, not %d", n, by, got, want)
			}
		}
	}
}

// Promise 1.4, of words.

func TestWhatIsSetIsCut(t *testing.T) {
	everyPart(func(at, wide int) {
		for _, n := range someNumbers {
			w := num.Set(0xf0e1d2c3b4a59687, at, wide, n)
			part := plainMask(at, wide)
			var want uint64
			if part != 0 {
				want = n & (part >> at)
			}
			if got := num.Cut(w, at, wide); got != want {
				t.Errorf("at %d, %d wide: %#x was set, %#x is cut", at, wide, n, got)
			}
			if w&^part != 0xf0e1d2c3b4a59687&^part {
				t.Errorf("at %d, %d wide: another part is changed: %#x", at, wide, w)
			}
		}
	})
}

func TestPartsSideBySideAreApart(t *testing.T) {
	for at := range 64 {
		w := num.Set(0, 0, at, 0xf0e1d2c3b4a59687)
		w = num.Set(w, at, 64, 0x0807060504030201)
		low, high := plainCut(0xf0e1d2c3b4a59687, 0, at), plainCut(0x0807060504030201, 0, 64-at)
		if num.Cut(w, 0, at) != low || num.Cut(w, at, 64) != high {
			t.Errorf("cut at %d: %#x and %#x, not %#x and %#x", at, num.Cut(w, 0, at), num.Cut(w, at, 64), low, high)
		}
	}
}
