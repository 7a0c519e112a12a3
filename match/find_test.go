package match_test

import (
	"bytes"
	"slices"
	"testing"

	"gunny/match"
)

// Promise 12.1, Find.

func TestExample(t *testing.T) {
	findsJust(t, []byte("abcabcabd"), 3, 5, 3)
}

func TestFindInAFewBytes(t *testing.T) {
	for at, want := range [][2]int{{}, {}, {}, {5, 3}, {4, 3}, {3, 3}, {}, {}, {}, {}} {
		findsJust(t, []byte("abcabcabd"), at, want[0], want[1])
	}
}

func TestFindInBytesOfAllKinds(t *testing.T) {
	for _, b := range manyBytes() {
		findsAll(t, b)
	}
}

// All lists of up to nine bytes of two kinds, and of up to seven of three.
func TestFindInAllShortBytes(t *testing.T) {
	for _, kinds := range [][2]int{{2, 9}, {3, 7}} {
		count := 1
		for many := range kinds[1] + 1 {
			for which := range count {
				b := make([]byte, many)
				for i := range b {
					b[i] = byte(which % kinds[0])
					which /= kinds[0]
				}
				findsAll(t, b)
			}
			count *= kinds[0]
		}
	}
}

func TestFindOfNoPlace(t *testing.T) {
	for _, many := range []int{1, 2, 3, 10, 131, 4095, 4096} {
		f := match.New(make([]byte, many))
		for _, at := range append([]int{many - 2, many - 1, many, many + 1, many + 2, many + 3, -many, -many + 1}, farPlaces...) {
			if at >= 0 && at <= many-3 {
				continue
			}
			if long, dist := f.Find(at); long != 0 || dist != 0 {
				t.Errorf("of %d bytes, Find(%d): %d, %d", many, at, long, dist)
			}
		}
	}
}

// The first place has nothing ahead; the second one has, from four bytes on.
func TestFindOfTheFirstPlaces(t *testing.T) {
	for _, many := range []int{1, 2, 3, 4, 5, 131, 132, 4096} {
		b := make([]byte, many)
		findsJust(t, b, 0, 0, 0)
		if many >= 4 {
			findsJust(t, b, 1, min(130, many-1), 1)
		}
	}
	findsJust(t, []byte{1, 0, 0, 0, 0}, 1, 0, 0)
	findsJust(t, []byte{1, 0, 0, 0, 0}, 2, 3, 1)
}

// Matches that reach into themselves, of each length up to the end, or to 130.
func TestFindReachesIntoItself(t *testing.T) {
	for _, dist := range []int{1, 2, 3, 4, 64, 129} {
		for _, long := range []int{3, 4, 5, 128, 129, 130, 131, 132, 260, 1000} {
			atTheEnd := again(dist+long, dist)
			findsJust(t, atTheEnd, dist, min(long, 130), dist)
			within := append(bytes.Clone(atTheEnd), 99, 98, 97)
			findsJust(t, within, dist, min(long, 130), dist)
		}
	}
}

// Matches that don't: they end ahead of the place, where one byte is another
// one, or the bytes end.
func TestFindDoesNotReachIntoItself(t *testing.T) {
	for _, long := range []int{3, 4, 5, 128, 129, 130, 131, 132, 260, 1000} {
		piece := pattern(long)
		for _, between := range []int{1, 2, 3, 1500} {
			b := slices.Concat(piece, bytes.Repeat([]byte{30}, between), piece)
			at := long + between
			findsJust(t, b, at, min(long, 130), at)
			findsJust(t, append(bytes.Clone(b), 31), at, min(long, 130), at)
			findsJust(t, append(bytes.Clone(b), 30), at, min(long+1, 130), at)
		}
	}
}

// Two bytes that are the same, and even those at the end, are no match.
func TestFindTwoBytes(t *testing.T) {
	findsJust(t, []byte{1, 2, 3, 1, 2}, 3, 0, 0)
	findsJust(t, []byte{1, 2, 3, 1, 2, 4}, 3, 0, 0)
	findsJust(t, []byte{1, 2, 3, 1, 2, 3}, 3, 3, 3)
	findsJust(t, []byte{1, 2, 3, 1, 2, 3, 3}, 3, 3, 3)
	findsJust(t, []byte{1, 2, 3, 1, 2, 3, 1}, 3, 4, 3)
}

// said is the text, behind so many others like it, each of which ends at once.
func said(text string, parts ...string) []byte {
	var out []byte
	for i, part := range parts {
		out = append(out, part...)
		out = append(out, byte(128+i))
	}
	return append(out, text...)
}

func TestFindTheNearestOfSeveralAsLong(t *testing.T) {
	findsJust(t, said("abcdef", "abcdef", "abcdef"), 14, 6, 7)
	findsJust(t, said("abcdef", "abcde", "abcd", "abcde", "abcd"), 22, 5, 11)
	findsJust(t, said("abc", "abc", "abc", "abc"), 12, 3, 4)
	findsJust(t, said("abcd", "abcd", "abcx", "abcd", "abcy"), 20, 4, 10)
}

func TestFindALongerOneFartherAway(t *testing.T) {
	findsJust(t, said("abcdefg", "abcdefg", "abcdef", "abcde", "abcd", "abc"), 30, 7, 30)
	findsJust(t, said("abcdefg", "abc", "abcd", "abcde", "abcdef", "abcdefg"), 30, 7, 8)
	findsJust(t, said("abcdefg", "abc", "abcdefg", "abcde"), 18, 7, 14)
}

// Of several of 130 and more bytes the nearest one, though another would go on.
func TestFindTheNearestOfSeveralOf130(t *testing.T) {
	piece := pattern(140)
	b := slices.Concat(piece, []byte{1}, piece[:130], []byte{2}, piece[:129], []byte{3}, piece)
	findsJust(t, b, 141+131+130, 130, 131+130)
}

// crowd has a long piece first, then so many shorter ones, each of which is a
// candidate, then the long one again, at the place that it tells.
func crowd(between int) ([]byte, int) {
	parts := []string{"abcdefgh"}
	for range between {
		parts = append(parts, "abc")
	}
	b := said("abcdefgh", parts...)
	return b, len(b) - len("abcdefgh")
}

// Of 31 and 32 candidates the farthest one counts, of 33 and more it doesn't.
func TestFindAmongTheNearest32(t *testing.T) {
	for _, many := range []int{1, 2, 30, 31, 32} {
		b, at := crowd(many - 1)
		findsJust(t, b, at, 8, at)
	}
	for _, many := range []int{33, 34, 40, 64, 65, 100} {
		b, at := crowd(many - 1)
		findsJust(t, b, at, 3, 4)
	}
}

// Places whose three bytes are unlike for one of them alone are no candidates:
// so many of them leave the far one the 32nd, or the 33rd.
func TestFindWhatIsUnlikeDoesNotCount(t *testing.T) {
	for which := range 3 {
		for _, many := range []int{31, 32} {
			b := []byte("abcdefgh\x00")
			for i := range many {
				b = append(b, 'a', 'b', 'c', byte(128+i))
				for unlike := range 12 {
					part := []byte("abc")
					part[which] = byte(17 + 6*unlike + i%6)
					b = append(append(b, part...), byte(200+i%50))
				}
			}
			at := len(b)
			b = append(b, "abcdefgh"...)
			if many == 31 {
				findsJust(t, b, at, 8, at)
			} else {
				findsJust(t, b, at, 3, 4*13)
			}
			findsAll(t, b)
		}
	}
}

// Each three bytes that are unlike others for one of them, wherever they stand,
// whichever value it has.
func TestFindEveryValueOfEachByte(t *testing.T) {
	for which := range 3 {
		var b []byte
		for value := range 256 {
			part := []byte{5, 250, 100}
			part[which] = byte(value)
			b = append(append(b, part...), byte(value*value), byte(255-value))
		}
		b = append(b, b[100:900]...)
		findsAll(t, b)
	}
}

// The same three bytes in another order are no candidate.
func TestFindOtherOrders(t *testing.T) {
	findsJust(t, []byte("acb-bac-bca-cab-cba-abc"), 20, 0, 0)
	findsJust(t, []byte("acb-abc-bca-cab-cba-abc"), 20, 3, 16)
}

func TestFindFarAhead(t *testing.T) {
	for _, many := range []int{4096, 4095, 4097} {
		b := pattern(max(many, 4096))[:many]
		end := min(many, 4096)
		for long := 3; long < 10; long++ {
			c := bytes.Clone(b)
			copy(c[end-long:end], c[:long])
			findsJust(t, c, end-long, long, end-long)
		}
	}
	b := append(pattern(4093), pattern(3)...)
	findsJust(t, b, 4093, 3, 4093)
}

func TestFindNothing(t *testing.T) {
	b := pattern(4096)
	f := match.New(b)
	for at := range b {
		if long, dist := f.Find(at); long != 0 || dist != 0 {
			t.Fatalf("Find(%d): %d, %d", at, long, dist)
		}
	}
}

// Pages on which nearly all of three bytes are unlike, of many kinds: however
// places are kept by what stands there, those that are kept side by side aren't
// taken for each other.
func TestFindInManyUnlikeBytes(t *testing.T) {
	for seed := range 40 {
		kinds, stride := 12+5*seed, 1+2*seed
		b := ofKinds(4096, min(kinds, 256), uint64(seed))
		for i := range b {
			b[i] *= byte(stride)
		}
		findsAll(t, b)
	}
}

// Pages on which one or two of three bytes are of few kinds, so that many are
// alike in these, and unlike in the others.
func TestFindInBytesThatAreAlikeInPart(t *testing.T) {
	for i, kinds := range [][]int{{4, 4, 256}, {2, 8, 256}, {16, 1, 256}, {3, 256, 256}, {1, 256}, {1, 1, 256}, {4, 4, 4, 256}} {
		for seed := range 6 {
			next := steps(uint64(10*i + seed))
			b := make([]byte, 4096)
			for at := range b {
				b[at] = byte(next(kinds[at%len(kinds)]))
			}
			findsAll(t, b)
		}
	}
}
