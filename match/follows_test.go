package match_test

import (
	"testing"

	"gunny/match"
	"gunny/token"
)

// Promise 12.3.

// standsThere fails if what was found doesn't stand there, byte by byte, or could
// be longer, or isn't of a candidate.
func standsThere(t *testing.T, b []byte, at, long, dist int) {
	t.Helper()
	if long < 3 || long > 130 || dist < 1 || dist > at || at+long > len(b) {
		t.Fatalf("of %d bytes, Find(%d): %d, %d", len(b), at, long, dist)
	}
	for i := at; i < at+long; i++ {
		if b[i] != b[i-dist] {
			t.Fatalf("Find(%d): %d, %d, but byte %d is another one", at, long, dist, i)
		}
	}
	if end := at + long; long < 130 && end < len(b) && b[end] == b[end-dist] {
		t.Fatalf("Find(%d): %d, %d, but one byte more is the same", at, long, dist)
	}
}

func TestWhatIsFoundStandsThere(t *testing.T) {
	for _, b := range manyBytes() {
		f := match.New(b)
		b = firstOnes(b)
		for at := range b {
			long, dist := f.Find(at)
			if long == 0 && dist == 0 {
				if some := plainCandidates(b, at); len(some) > 0 {
					t.Fatalf("Find(%d) is nothing, and one at %d would be", at, some[0])
				}
				continue
			}
			standsThere(t, b, at, long, dist)
			if got := f.With(at, at-dist); got != long {
				t.Fatalf("Find(%d): %d, %d, but With: %d", at, long, dist, got)
			}
		}
	}
}

// With, too: what is the same stands there, and one byte more isn't.
func TestWhatIsTheSameStandsThere(t *testing.T) {
	next := steps(1)
	for _, b := range manyBytes() {
		f := match.New(b)
		b = firstOnes(b)
		for range min(3000, len(b)*len(b)) {
			at, from := next(len(b)), next(len(b))
			got := f.With(at, from)
			if from >= at {
				if got != 0 {
					t.Fatalf("With(%d, %d): %d", at, from, got)
				}
				continue
			}
			if got >= 3 {
				standsThere(t, b, at, got, at-from)
			} else if isWith(t, f, b, at, from) != got {
				t.Fatalf("With(%d, %d): %d", at, from, got)
			}
		}
	}
}

// What is found is a token, which grows what stands ahead by what stands there.
func TestWhatIsFoundIsAToken(t *testing.T) {
	for _, b := range manyBytes() {
		f := match.New(b)
		b = firstOnes(b)
		for at := 0; at < len(b); at += 1 + len(b)/200 {
			long, dist := f.Find(at)
			if long == 0 {
				continue
			}
			tok := token.Token{Len: long, Dist: dist}
			grown, err := token.Grow(b[:at], tok)
			if !token.May(tok) || err != 0 || string(grown) != string(b[:at+long]) {
				t.Fatalf("Find(%d): %d, %d: %v", at, long, dist, err)
			}
		}
	}
}

// Calls in any order, and said again, are told the same.
func TestCallsInAnyOrder(t *testing.T) {
	next := steps(2)
	for _, b := range [][]byte{again(600, 31), ofKinds(600, 3, 5), patched(600, 200, 6), make([]byte, 600)} {
		f := match.New(b)
		for range 1500 {
			at, from := next(610)-5, next(610)-5
			switch next(4) {
			case 0:
				finds(t, f, b, at)
				finds(t, f, b, at)
			case 1:
				isWith(t, f, b, at, from)
				isWith(t, f, b, at, from)
			case 2:
				if f.Len() != 600 {
					t.Fatalf("Len: %d", f.Len())
				}
			default:
				finds(t, f, b, farPlaces[next(len(farPlaces))])
			}
		}
	}
}
