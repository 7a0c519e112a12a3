package squeeze_test

import (
	"bytes"
	"slices"
	"testing"

	"gunny/squeeze"
)

// Promise 13.1.

func TestMost(t *testing.T) {
	if squeeze.Most != 4128 {
		t.Errorf("Most: %d", squeeze.Most)
	}
}

func TestPackOfWhatIsNoPage(t *testing.T) {
	long := ofKinds(256, 1)
	long = slices.Concat(long, long, long)
	lists := [][]byte{nil, {}, make([]byte, 0, 4096), long[:0], long[4096:4096]}
	for _, many := range []int{1, 2, 3, 8, 128, 512, 4094, 4095, 4097, 4098, 4128, 4608, 8191, 8192, 12288} {
		lists = append(lists, long[:many], make([]byte, many))
	}
	for _, many := range []int{65536, 65536 + 4096, 1 << 20} {
		lists = append(lists, make([]byte, many))
	}
	for _, b := range lists {
		if got, ok := squeeze.Pack(b); ok || len(got) != 0 {
			t.Errorf("of %d bytes: %d bytes, %t", len(b), len(got), ok)
		}
	}
}

func TestPackOfPagesOfAllKinds(t *testing.T) {
	for _, page := range manyPages() {
		packs(t, page)
	}
}

func TestPackOfOneByte(t *testing.T) {
	for b := range 256 {
		if got := packs(t, again(byte(b))); len(got) > 200 {
			t.Errorf("of %d: %d bytes", b, len(got))
		}
	}
}

// Of a page in which nothing stands twice no copy can be, and no token is longer
// than 128 bytes: it is just as many bytes as there may be at most.
func TestPackOfWhatNowhereStandsTwice(t *testing.T) {
	for seed := range uint64(20) {
		if got := packs(t, unlike(seed)); len(got) != 4128 {
			t.Errorf("page %d: %d bytes", seed, len(got))
		}
	}
}

func TestPackOfBytesLikeChance(t *testing.T) {
	for _, kinds := range []int{1, 2, 3, 4, 5, 8, 16, 64, 255, 256} {
		for seed := range uint64(8) {
			packs(t, ofKinds(kinds, seed))
			packs(t, mixed(kinds, seed))
		}
	}
}

// Copies of three bytes between others would take more bytes than they stand
// for: a page that is full of them isn't packed to more than 4128 bytes either.
func TestPackOfManyShortPieces(t *testing.T) {
	for _, first := range []int{20, 130, 500, 1000, 2000} {
		for long := 1; long <= 9; long++ {
			for between := range 6 {
				packs(t, pieces(uint64(first+long), first, long, between))
			}
		}
	}
}

// A few kinds of short pieces, with new bytes between or none, in any order.
func TestPackOfShortPiecesMixed(t *testing.T) {
	next := steps(9)
	for seed := range uint64(60) {
		page, first := unlike(seed), 10+next(1500)
		most := 1 + next(6)
		for at := first; at < 4096; {
			from, long := next(first), 1+next(1+most)
			at += copy(page[at:], page[from:min(first, from+long)]) + next(3)
		}
		packs(t, page)
	}
}

// packsWell fails if a page, each byte of which is the one eight ahead, from the
// ninth on, is packed to more than 200 bytes.
func packsWell(t *testing.T, page []byte) {
	t.Helper()
	for i := 8; i < 4096; i++ {
		if page[i] != page[i-8] {
			t.Fatalf("byte %d isn't the one eight ahead", i)
		}
	}
	if b := packs(t, page); len(b) > 200 {
		t.Errorf("%d, again and again: %d bytes", page[:8], len(b))
	}
}

// All the same, words of eight different bytes, and pieces whose length divides
// eight, of bytes that differ or don't.
func TestPackOfWords(t *testing.T) {
	packsWell(t, make([]byte, 4096))
	packsWell(t, again(1, 2, 3, 4, 5, 6, 7, 8))
	packsWell(t, again(255, 254, 253, 252, 251, 250, 249, 248))
	for _, long := range []int{1, 2, 4, 8} {
		packsWell(t, again(pattern(long, 9)...))
		for seed := range uint64(20) {
			for _, kinds := range []int{1, 2, 3, 256} {
				packsWell(t, again(ofKinds(kinds, seed)[:long]...))
			}
		}
	}
}

// Words of eight bytes of two kinds: all of them.
func TestPackOfWordsOfTwoKinds(t *testing.T) {
	for which := range 256 {
		word := make([]byte, 8)
		for i := range word {
			word[i] = byte(3 + which>>i&1)
		}
		packsWell(t, again(word...))
	}
}

// Pages of one word but for one byte, at each of many places.
func TestPackOfWordsButForOneByte(t *testing.T) {
	for _, word := range [][]byte{{0}, {7, 8}, {1, 2, 3, 4}, {1, 2, 3, 4, 5, 6, 7, 8}, {0, 0, 0, 0, 0, 0, 0, 1}} {
		for at := 0; at < 4096; at++ {
			if at > 20 && at < 4076 && at%97 != 0 {
				continue
			}
			page := again(word...)
			page[at] ^= 129
			packs(t, page)
		}
	}
}

// Pieces of all lengths that stand there again, near and far.
func TestPackOfPiecesThatStandThereAgain(t *testing.T) {
	for long := 1; long <= 140; long++ {
		for _, dist := range []int{1, 2, 3, 130, 131, 256, 2000} {
			packs(t, patched(uint64(long), 2048, long, dist))
		}
	}
	for _, long := range []int{255, 256, 259, 260, 261, 262, 263, 264, 390, 391, 392, 393, 1000, 2000, 2048} {
		for _, dist := range []int{1, 8, 130, 1000, 2047, 2048} {
			packs(t, patched(uint64(long), 2048, long, dist))
		}
	}
}

// Pieces that are as far off as a copy can tell, and that stand in the very
// beginning.
func TestPackOfPiecesFarOff(t *testing.T) {
	for long := 1; long <= 140; long++ {
		for _, dist := range []int{3900, 4000} {
			packs(t, patched(uint64(long), 4096-long, long, min(dist, 4096-long)))
			packs(t, patched(uint64(long), dist, long, dist))
		}
	}
}

// Many pieces, each behind a few other bytes or none.
func TestPackOfManyPieces(t *testing.T) {
	next := steps(4)
	for seed := range uint64(60) {
		page := unlike(seed)
		for at := 200; at < 4096; {
			dist, long := 1+next(at), 1+next(1+next(300))
			for i := at; i < min(4096, at+long); i++ {
				page[i] = page[i-dist]
			}
			at += long + next(1+next(200))
		}
		packs(t, page)
	}
}

// The last bytes of the page are a match, of each length, or all but the last
// one are.
func TestPackUpToTheEnd(t *testing.T) {
	for long := range 140 {
		for _, dist := range []int{1, 2, 64, 1000, 3900} {
			page := patched(uint64(long), 4096-long, long, dist)
			packs(t, page)
			page[4095] ^= 1
			packs(t, page)
		}
	}
}

// Bytes ahead of a copy, and behind the last one, as many as one token of bytes
// has, and some more and fewer.
func TestPackOfBytesBetween(t *testing.T) {
	for _, many := range []int{1, 2, 126, 127, 128, 129, 130, 255, 256, 257, 384, 385} {
		packs(t, patched(5, many, 4096-many-many, 1))
		packs(t, patched(5, many, 4096-many, many))
		packs(t, patched(6, many, 4095-many, 1))
	}
}

// What is told stays as it is when the page is changed behind it, or other pages
// are packed, and so do others when it is changed.
func TestPackIsNewMemory(t *testing.T) {
	for _, page := range manyPages() {
		b := packs(t, page)
		was, pageWas := bytes.Clone(b), bytes.Clone(page)
		other, _ := squeeze.Pack(page)
		for i := range page {
			page[i] ^= 85
		}
		packs(t, page)
		if !bytes.Equal(b, was) {
			t.Fatalf("a page (%d ..): what was told has changed", start(pageWas))
		}
		whole := b[:cap(b)]
		for i := range whole {
			whole[i] ^= 170
		}
		if !bytes.Equal(other, was) {
			t.Fatalf("a page (%d ..): two answers share memory", start(pageWas))
		}
		if got := packs(t, pageWas); !bytes.Equal(got, was) {
			t.Fatalf("a page (%d ..) is packed to other bytes then", start(pageWas))
		}
	}
}

// What lies behind the list's length is neither read nor written.
func TestPackKeepsToTheLength(t *testing.T) {
	for _, behind := range [][]byte{make([]byte, 300), pattern(300, 1), {1}} {
		for _, page := range manyPages() {
			long := slices.Concat(page, behind)
			if got, want := packs(t, long[:4096]), packs(t, page); !bytes.Equal(got, want) {
				t.Fatalf("a page (%d ..): %d bytes, not %d", start(page), len(got), len(want))
			}
			if !bytes.Equal(long[4096:], behind) {
				t.Fatalf("a page (%d ..): what lies behind has changed", start(page))
			}
			if got, ok := squeeze.Pack(long[:4095]); ok || len(got) != 0 {
				t.Fatalf("of 4095 bytes with more behind: %d bytes, %t", len(got), ok)
			}
		}
	}
}
