package match_test

import (
	"bytes"
	"math"
	"slices"
	"testing"

	"gunny/match"
)

// farPlaces are in no bytes, however many there are.
var farPlaces = []int{math.MinInt, math.MinInt + 1, -1 << 62, -1 << 32, -1<<32 + 3, -4096, -256, -3, -2, -1, 4096, 4097, 8192, 1 << 16, 1 << 31, 1 << 32, 1<<32 + 3, 1 << 62, math.MaxInt - 3, math.MaxInt - 2, math.MaxInt - 1, math.MaxInt}

// edges are places at which so many bytes begin and end, and far ones.
func edges(many int) []int {
	return append([]int{0, 1, 2, 3, many - 4, many - 3, many - 2, many - 1, many, many + 1, many + 2, many + 129, many + 130, 2 * many}, farPlaces...)
}

// firstOnes are those of the bytes that a finder has.
func firstOnes(b []byte) []byte {
	if len(b) > 4096 {
		return b[:4096]
	}
	return b
}

// plainWith cuts off what is behind both places, and counts what begins alike.
func plainWith(b []byte, at, from int) int {
	b = firstOnes(b)
	if at < 0 || at >= len(b) || from < 0 || from >= at {
		return 0
	}
	here, there := b[at:], b[from:]
	for n := range 130 {
		if n == len(here) || here[n] != there[n] {
			return n
		}
	}
	return 130
}

// plainCandidates are those of a place that count, the nearest one first.
func plainCandidates(b []byte, at int) []int {
	b = firstOnes(b)
	var out []int
	if at < 0 || at > len(b)-3 {
		return nil
	}
	for from := at - 1; from >= 0 && len(out) < 32; from-- {
		if b[from] == b[at] && b[from+1] == b[at+1] && b[from+2] == b[at+2] {
			out = append(out, from)
		}
	}
	return out
}

// plainFind goes from the farthest one that counts to the nearest, so that the
// nearest of several as long is the last one that is taken.
func plainFind(b []byte, at int) (int, int) {
	long, dist := 0, 0
	for _, from := range slices.Backward(plainCandidates(b, at)) {
		if n := plainWith(b, at, from); n >= long {
			long, dist = n, at-from
		}
	}
	return long, dist
}

// finds fails if Find tells anything else than the plain count; it tells what
// Find told.
func finds(t *testing.T, f *match.Finder, b []byte, at int) (int, int) {
	t.Helper()
	long, dist := f.Find(at)
	if wantLong, wantDist := plainFind(b, at); long != wantLong || dist != wantDist {
		t.Fatalf("of %d bytes, Find(%d): %d, %d, not %d, %d", len(b), at, long, dist, wantLong, wantDist)
	}
	return long, dist
}

// findsJust fails if Find in these bytes tells anything else than is said here,
// or than the plain count.
func findsJust(t *testing.T, b []byte, at, wantLong, wantDist int) {
	t.Helper()
	if long, dist := finds(t, match.New(b), b, at); long != wantLong || dist != wantDist {
		t.Errorf("of %d bytes, Find(%d): %d, %d, not %d, %d", len(b), at, long, dist, wantLong, wantDist)
	}
}

// findsAll fails if Find tells anything else than the plain count, of any
// place, and of edges that are none.
func findsAll(t *testing.T, b []byte) {
	t.Helper()
	f := match.New(b)
	for at := range firstOnes(b) {
		finds(t, f, b, at)
	}
	for _, at := range edges(len(b)) {
		finds(t, f, b, at)
	}
}

// isWith fails if With tells anything else than the plain count.
func isWith(t *testing.T, f *match.Finder, b []byte, at, from int) int {
	t.Helper()
	got := f.With(at, from)
	if want := plainWith(b, at, from); got != want {
		t.Fatalf("of %d bytes, With(%d, %d): %d, not %d", len(b), at, from, got, want)
	}
	return got
}

// pattern is so many bytes, in which no three side by side stand twice, if they
// are no more than a page.
func pattern(many int) []byte {
	out := make([]byte, 0, many+2)
	for i := 0; len(out) < many; i++ {
		out = append(out, byte(128+i%128), byte(i/128), byte(64+i%64))
	}
	return out[:many]
}

// again is so many bytes, each of which is the one that stands so far ahead.
func again(many, dist int) []byte {
	return bytes.Repeat(pattern(dist), many/dist+1)[:many]
}

// ofKinds is so many bytes, of so many kinds, that look like chance.
func ofKinds(many, kinds int, seed uint64) []byte {
	next := steps(seed)
	out := make([]byte, many)
	for i := range out {
		out[i] = byte(next(kinds))
	}
	return out
}

// patched is bytes that look like chance, into which pieces of them were put
// again, at any places.
func patched(many, kinds int, seed uint64) []byte {
	out, next := ofKinds(many, kinds, seed), steps(seed+1)
	for range many / 100 {
		from, to := next(many), next(many)
		copy(out[to:], out[from:min(many, from+3+next(200))])
	}
	return out
}

// manyBytes are of each kind that differs in what there is to be found.
func manyBytes() [][]byte {
	out := [][]byte{
		nil, {7}, {7, 7}, {7, 7, 7}, {7, 7, 7, 7}, {1, 2, 3, 1, 2}, {1, 2, 3, 1, 2, 3}, []byte("abcabcabd"),
		make([]byte, 4096), bytes.Repeat([]byte{255}, 4095), bytes.Repeat([]byte{7}, 4097), make([]byte, 200), pattern(4096), pattern(300),
	}
	for _, dist := range []int{2, 3, 4, 7, 129, 130, 131, 1000, 2048} {
		out = append(out, again(4096, dist), again(1200, dist))
	}
	for i, kinds := range []int{2, 3, 4, 16, 256} {
		seed := uint64(10 * i)
		out = append(out, ofKinds(4096, kinds, seed), ofKinds(500, kinds, seed+1), patched(4096, kinds, seed+2), patched(700, kinds, seed+3))
	}
	return out
}

// steps tells numbers that look like chance, always the same ones.
func steps(seed uint64) func(below int) int {
	state := seed
	return func(below int) int {
		state += 0x9e3779b97f4a7c15
		z := (state ^ state>>30) * 0xbf58476d1ce4e5b9
		z = (z ^ z>>27) * 0x94d049bb133111eb
		return int((z ^ z>>31) % uint64(below))
	}
}
