package squeeze_test

import (
	"bytes"
	"slices"
	"testing"

	"gunny/api"
	"gunny/squeeze"
	"gunny/token"
)

// Promise 13.3.

// comesBack fails if a page that is packed isn't unpacked to itself, or if the
// tokens it is packed to, taken one by one, aren't as many as Tokens tells, or
// don't grow to it.
func comesBack(t *testing.T, page []byte) {
	t.Helper()
	b, ok := squeeze.Pack(page)
	if !ok {
		t.Fatalf("a page (%d ..) isn't packed", start(page))
	}
	if got, err := squeeze.Unpack(b); err != api.OK || !bytes.Equal(got, page) {
		t.Fatalf("a page (%d ..) comes back as %d bytes (%d ..), %v", start(page), len(got), start(got), err)
	}
	var grown []byte
	many := 0
	for at := 0; at < len(b); many++ {
		tok, end, err := token.Take(b, at)
		if err != api.OK {
			t.Fatalf("a page (%d ..): no token at %d: %v", start(page), at, err)
		}
		if grown, err = token.Grow(grown, tok); err != api.OK {
			t.Fatalf("a page (%d ..): the token at %d: %v", start(page), at, err)
		}
		at = end
	}
	if !bytes.Equal(grown, page) || squeeze.Tokens(b) != many {
		t.Fatalf("a page (%d ..) is packed to %d tokens, which come to %d bytes; Tokens: %d", start(page), many, len(grown), squeeze.Tokens(b))
	}
}

func TestWhatIsPackedIsUnpacked(t *testing.T) {
	for _, page := range manyPages() {
		comesBack(t, page)
		for _, at := range []int{0, 1, 2, 7, 8, 9, 127, 128, 2048, 4092, 4093, 4094, 4095} {
			page[at]++
			comesBack(t, page)
		}
	}
}

func TestManyPagesArePackedAndUnpacked(t *testing.T) {
	next := steps(3)
	for seed := range uint64(300) {
		switch next(4) {
		case 0:
			comesBack(t, ofKinds(1+next(256), seed))
		case 1:
			comesBack(t, mixed(1+next(256), seed))
		case 2:
			comesBack(t, again(ofKinds(1+next(256), seed)[:1+next(4096)]...))
		default:
			comesBack(t, pieces(seed, 100+next(2000), 1+next(20), next(9)))
		}
	}
}

// Pages of small and large numbers, a word each, and of text.
func TestPagesAsTheyAreUsed(t *testing.T) {
	for _, step := range []uint64{0, 1, 2, 3, 255, 256, 65537, 1 << 40, 0x9e3779b97f4a7c15} {
		page := make([]byte, 4096)
		for i := range page {
			page[i] = byte(step * uint64(i/8) >> (8 * (i % 8)))
		}
		comesBack(t, page)
	}
	comesBack(t, again([]byte("A page has 4096 bytes, and an address. A frame is room for one page, of a numbered owner. ")...))
}

// What a packed page is unpacked to is packed again, and comes back again,
// whichever tokens it was packed to at first.
func TestWhatIsUnpackedIsPacked(t *testing.T) {
	for _, b := range somePacked(t) {
		page, err := squeeze.Unpack(b)
		if err != api.OK {
			t.Fatal(err)
		}
		comesBack(t, page)
	}
}

// Whatever the bytes are, a page comes of them, or none and one of three errors.
func TestWhateverTheBytesAre(t *testing.T) {
	next := steps(5)
	pages := 0
	for round := range 4000 {
		b := make([]byte, next(1+next(9000)))
		most := 1 + next(256)
		for i := range b {
			b[i] = byte(next(most))
			if i%3 == 2 && next(8) > 0 {
				b[i] %= 4
			}
		}
		if round%2 == 0 {
			b = slices.Concat(upTo(1+next(4096)), b)
		}
		if round%8 == 0 {
			b = dups(4096 - next(2))
			b[next(len(b))] = byte(next(256))
		}
		page, err := squeeze.Unpack(b)
		switch many := squeeze.Tokens(b); err {
		case api.OK:
			pages++
			if len(page) != 4096 || many < 32 || many > 4096 {
				t.Fatalf("of %d bytes: %d, %d tokens", len(b), len(page), many)
			}
			comesBack(t, page)
		case api.ErrEnd, api.ErrForm, api.ErrLong:
			if len(page) != 0 || many != 0 {
				t.Fatalf("of %d bytes: %d, %d tokens, %v", len(b), len(page), many, err)
			}
		default:
			t.Fatalf("of %d bytes: %v", len(b), err)
		}
	}
	if pages < 50 {
		t.Errorf("only %d of them are pages", pages)
	}
}
