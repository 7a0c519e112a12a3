package match_test

import (
	"slices"
	"testing"

	"gunny/match"
)

// Promise 12.2.

func TestWith(t *testing.T) {
	f := match.New([]byte("abcabcabd"))
	for _, c := range []struct{ at, from, want int }{
		{3, 0, 5}, {4, 1, 4}, {5, 2, 3}, {6, 3, 2}, {6, 0, 2}, {7, 4, 1}, {7, 1, 1}, {8, 5, 0}, {8, 7, 0}, {1, 0, 0}, {2, 1, 0}, {4, 3, 0},
	} {
		if got := f.With(c.at, c.from); got != c.want {
			t.Errorf("With(%d, %d): %d, not %d", c.at, c.from, got, c.want)
		}
	}
}

func TestWithOfAllPlaces(t *testing.T) {
	for _, b := range manyBytes() {
		f, step := match.New(b), 1
		if len(b) > 400 {
			step = 37
		}
		for at := -3; at < len(b)+5; at += step {
			for from := -3; from < len(b)+5; from += step {
				isWith(t, f, b, at, from)
			}
			isWith(t, f, b, at, at-1)
			isWith(t, f, b, at, at)
			isWith(t, f, b, at, at+1)
		}
	}
}

func TestWithAtTheEdges(t *testing.T) {
	for _, many := range []int{0, 1, 2, 3, 131, 4095, 4096, 4097} {
		b := make([]byte, many)
		f := match.New(b)
		for _, at := range edges(many) {
			for _, from := range edges(many) {
				isWith(t, f, b, at, from)
			}
		}
	}
}

// withIs fails if With in these bytes tells anything else than is said here.
func withIs(t *testing.T, b []byte, at, from, want int) {
	t.Helper()
	if got := match.New(b).With(at, from); got != want {
		t.Errorf("of %d bytes, With(%d, %d): %d, not %d", len(b), at, from, got, want)
	}
}

func TestWithWhatIsNoPlace(t *testing.T) {
	b := make([]byte, 300)
	for _, far := range append([]int{300, 301, 302, 429, 430, 431}, farPlaces...) {
		withIs(t, b, far, 0, 0)
		withIs(t, b, far, 299, 0)
		withIs(t, b, far, far, 0)
		withIs(t, b, 0, far, 0)
		withIs(t, b, 150, far, 0)
		withIs(t, b, 299, far, 0)
		withIs(t, b, far, far-1, 0)
		withIs(t, b, far, far+1, 0)
	}
}

func TestWithWhatIsNotAhead(t *testing.T) {
	b := make([]byte, 300)
	for _, at := range []int{0, 1, 2, 150, 297, 298, 299} {
		for from := at; from < 305; from++ {
			withIs(t, b, at, from, 0)
		}
	}
}

// Fewer than three bytes that are the same are told too.
func TestWithFewBytes(t *testing.T) {
	b := []byte{1, 2, 3, 1, 2, 4, 1, 5, 6, 3}
	withIs(t, b, 3, 0, 2)
	withIs(t, b, 6, 0, 1)
	withIs(t, b, 6, 3, 1)
	withIs(t, b, 7, 0, 0)
	withIs(t, b, 9, 2, 1)
	withIs(t, b, 9, 1, 0)
	withIs(t, b, 4, 1, 1)
}

// Two pieces that are the same so far, and then not, or up to the end, where the
// one from which is asked ends in the other one, or far ahead.
func TestWithLongPieces(t *testing.T) {
	for _, long := range []int{0, 1, 2, 3, 128, 129, 130, 131, 132, 259, 260, 1000} {
		piece, want := pattern(long), min(long, 130)
		unlike := slices.Concat(piece, []byte{30}, piece, []byte{31})
		withIs(t, unlike, long+1, 0, want)
		withIs(t, unlike[:len(unlike)-1], long+1, 0, want)
		same := slices.Concat(piece, []byte{30}, piece, []byte{30, 32})
		withIs(t, same, long+1, 0, min(long+1, 130))
		for _, dist := range []int{1, 2, 64} {
			withIs(t, again(dist+long, dist), dist, 0, want)
			withIs(t, append(again(dist+long, dist), 33), dist, 0, want)
		}
	}
}

// At the end so many bytes are told as there are.
func TestWithUpToTheEnd(t *testing.T) {
	for _, many := range []int{2, 3, 131, 132, 4096} {
		b := make([]byte, many)
		for left := 1; left < min(many, 140); left++ {
			withIs(t, b, many-left, many-left-1, min(left, 130))
			withIs(t, b, many-left, 0, min(left, 130))
		}
	}
}
