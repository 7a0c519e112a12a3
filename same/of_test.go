package same_test

import (
	"bytes"
	"fmt"
	"testing"

	"gunny/same"
)

// Promise 10.1, Of.

func TestExample(t *testing.T) {
	if w, ok := same.Of(make([]byte, 4096)); w != 0 || !ok {
		t.Errorf("Of a page of 0: %d, %t", w, ok)
	}
}

func TestOfPagesOfOneWord(t *testing.T) {
	for _, want := range someWords {
		if w, ok := same.Of(allOf(want)); w != want || !ok {
			t.Errorf("%#x: %#x, %t", want, w, ok)
		}
	}
	for b := range 256 {
		want := uint64(b) * 0x0101010101010101
		if w, ok := same.Of(repeated(4096, byte(b))); w != want || !ok {
			t.Errorf("bytes of %d: %#x, %t", b, w, ok)
		}
	}
	for bit := range 64 {
		if w, ok := same.Of(allOf(1 << bit)); w != 1<<bit || !ok {
			t.Errorf("bit %d: %#x, %t", bit, w, ok)
		}
	}
}

// The lowest byte of a word is its first one.
func TestOfReadsTheLowestByteFirst(t *testing.T) {
	page := bytes.Repeat([]byte{1, 2, 3, 4, 5, 6, 7, 8}, 512)
	if w, ok := same.Of(page); w != 0x0807060504030201 || !ok {
		t.Errorf("%#x, %t", w, ok)
	}
	page = bytes.Repeat([]byte{7, 0, 0, 0, 0, 0, 0, 0}, 512)
	if w, ok := same.Of(page); w != 7 || !ok {
		t.Errorf("%#x, %t", w, ok)
	}
}

// Whichever word is another one, the page isn't of one word.
func TestOfWhereOneWordIsAnother(t *testing.T) {
	for _, w := range []uint64{0, 1, mixedWord, greatest} {
		for at := range 512 {
			for _, other := range []uint64{w + 1, w - 1, ^w, w ^ 1<<63} {
				if got, ok := same.Of(oneOther(w, other, at)); got != 0 || ok {
					t.Fatalf("%#x, but %#x at word %d: %#x, %t", w, other, at, got, ok)
				}
			}
		}
	}
}

// Whichever byte is another one, the page isn't of one word.
func TestOfWhereOneByteIsAnother(t *testing.T) {
	for _, w := range []uint64{0, 1, mixedWord, greatest} {
		page := allOf(w)
		for at := range page {
			for _, by := range []byte{1, 128} {
				page[at] ^= by
				if got, ok := same.Of(page); got != 0 || ok {
					t.Fatalf("%#x, but for byte %d: %#x, %t", w, at, got, ok)
				}
				page[at] ^= by
			}
		}
		if got, ok := same.Of(page); got != w || !ok {
			t.Errorf("%#x again: %#x, %t", w, got, ok)
		}
	}
}

// All words have another byte at one place in a word: the page is of that word.
func TestOfWhereAByteOfEachWordIsAnother(t *testing.T) {
	for place := range 8 {
		page := allOf(mixedWord)
		for at := place; at < 4096; at += 8 {
			page[at] = 200
		}
		want := uint64(mixedWord) + uint64(200-(place+1))<<(8*place)
		if w, ok := same.Of(page); w != want || !ok {
			t.Errorf("place %d: %#x, %t, not %#x", place, w, ok, want)
		}
	}
}

// A page whose bytes are shifted against its words and turn round at its end is
// of another word; one into which another byte comes isn't of one.
func TestOfShiftedBytes(t *testing.T) {
	page := allOf(mixedWord)
	for by := range 8 {
		turned := append(bytes.Clone(page[by:]), page[:by]...)
		want := uint64(mixedWord)>>(8*by) | uint64(mixedWord)<<(64-8*by)
		if w, ok := same.Of(turned); w != want || !ok {
			t.Errorf("turned by %d: %#x, %t, not %#x", by, w, ok, want)
		}
	}
	ahead := append([]byte{0}, page[:4095]...)
	if w, ok := same.Of(ahead); w != 0 || ok {
		t.Errorf("a byte ahead: %#x, %t", w, ok)
	}
	behind := append(bytes.Clone(page[1:]), 0)
	if w, ok := same.Of(behind); w != 0 || ok {
		t.Errorf("a byte behind: %#x, %t", w, ok)
	}
}

// Halves, quarters and so on of words that come again are not a page of one word.
func TestOfPatternsLongerThanAWord(t *testing.T) {
	for wide := 16; wide <= 2048; wide *= 2 {
		for _, b := range []byte{0, 3, 255} {
			part := repeated(wide, b)
			part[wide-1]++
			if w, ok := same.Of(bytes.Repeat(part, 4096/wide)); w != 0 || ok {
				t.Errorf("%d bytes again and again: %#x, %t", wide, w, ok)
			}
		}
	}
	for wide := 1; wide <= 8; wide *= 2 {
		part := []byte{1, 2, 3, 4, 5, 6, 7, 8}[:wide]
		if w, ok := same.Of(bytes.Repeat(part, 4096/wide)); w == 0 || !ok {
			t.Errorf("%d bytes again and again: %#x, %t", wide, w, ok)
		}
	}
}

func TestOfOtherLengths(t *testing.T) {
	if w, ok := same.Of(nil); w != 0 || ok {
		t.Errorf("nil: %#x, %t", w, ok)
	}
	if w, ok := same.Of([]byte{}); w != 0 || ok {
		t.Errorf("no bytes: %#x, %t", w, ok)
	}
	for _, many := range lengths {
		for _, b := range []byte{0, 1, 7, 255} {
			if w, ok := same.Of(repeated(many, b)); w != 0 || ok {
				t.Errorf("%d bytes of %d: %#x, %t", many, b, w, ok)
			}
		}
		mixed := bytes.Repeat([]byte{1, 2, 3, 4, 5, 6, 7, 8}, many/8+1)[:many]
		if w, ok := same.Of(mixed); w != 0 || ok {
			t.Errorf("%d bytes: %#x, %t", many, w, ok)
		}
	}
}

// Bytes behind a list's length, which would make it a page, or no page of one
// word, are neither read nor written.
func TestOfKeepsToTheLength(t *testing.T) {
	room := repeated(8192, 9)
	for _, many := range []int{0, 1, 8, 4088, 4095, 4097} {
		if w, ok := same.Of(room[:many]); w != 0 || ok {
			t.Errorf("%d bytes: %#x, %t", many, w, ok)
		}
	}
	for i := 4096; i < 8192; i++ {
		room[i] = byte(i)
	}
	was := bytes.Clone(room)
	if w, ok := same.Of(room[:4096]); w != 0x0909090909090909 || !ok {
		t.Errorf("other bytes behind: %#x, %t", w, ok)
	}
	if w, ok := same.Of(room[1:4097]); w != 0 || ok {
		t.Errorf("the first of these within: %#x, %t", w, ok)
	}
	if !bytes.Equal(room, was) {
		t.Error("bytes have changed")
	}
}

func TestOfChangesNothingHandedIn(t *testing.T) {
	for _, w := range someWords {
		isAs(t, fmt.Sprintf("%#x", w), allOf(w))
		isAs(t, fmt.Sprintf("%#x and another", w), oneOther(w, ^w, 200))
		isAs(t, fmt.Sprintf("%#x, short", w), allOf(w)[:4088])
	}
}

// What was told of a page hangs on its bytes alone, not on pages told ahead.
func TestOfKeepsNothing(t *testing.T) {
	page := allOf(5)
	for range 3 {
		if w, ok := same.Of(page); w != 5 || !ok {
			t.Fatalf("%#x, %t", w, ok)
		}
		page[4095] = 1
		if w, ok := same.Of(page); w != 0 || ok {
			t.Fatalf("another byte: %#x, %t", w, ok)
		}
		page[4095] = 0
	}
}
