package same_test

import (
	"bytes"
	"fmt"
	"slices"
	"testing"

	"gunny/same"
)

// Promise 10.3.

// follows fails if a page is of one word and not of one stretch, or the other
// way round, or if Page of its word is another page.
func follows(t *testing.T, name string, page []byte) {
	t.Helper()
	w, ok := same.Of(page)
	if ok != (same.Runs(page) == 1) {
		t.Errorf("%s: of one word %t, Runs %d", name, ok, same.Runs(page))
	}
	if ok && !bytes.Equal(same.Page(w), page) {
		t.Errorf("%s: Page of %#x is another page", name, w)
	}
	isAs(t, name, page)
}

func TestPageOfOfIsThePage(t *testing.T) {
	for _, w := range someWords {
		page := allOf(w)
		got, ok := same.Of(page)
		if !ok || !bytes.Equal(same.Page(got), page) {
			t.Errorf("%#x: %#x, %t", w, got, ok)
		}
	}
	for b := range 256 {
		page := repeated(4096, byte(b))
		got, ok := same.Of(page)
		if !ok || !bytes.Equal(same.Page(got), page) {
			t.Errorf("bytes of %d: %#x, %t", b, got, ok)
		}
	}
}

func TestOfOfPageIsTheWord(t *testing.T) {
	next := steps(2)
	words := slices.Clone(someWords)
	for range 300 {
		words = append(words, next())
	}
	for _, w := range words {
		page := same.Page(w)
		if got, ok := same.Of(page); got != w || !ok {
			t.Errorf("%#x: %#x, %t", w, got, ok)
		}
		if got := same.Runs(page); got != 1 {
			t.Errorf("%#x: Runs %d", w, got)
		}
	}
}

func TestOneWordJustIfOneStretch(t *testing.T) {
	for _, w := range someWords {
		follows(t, fmt.Sprintf("%#x", w), allOf(w))
		for _, at := range []int{0, 1, 255, 256, 510, 511} {
			follows(t, fmt.Sprintf("%#x, but for word %d", w, at), oneOther(w, w+1, at))
		}
		for at := range 8 {
			page := allOf(w)
			page[2048+at]++
			follows(t, fmt.Sprintf("%#x, but for byte %d", w, at), page)
		}
	}
	for _, many := range lengths {
		follows(t, fmt.Sprintf("%d bytes", many), repeated(many, 4))
	}
	follows(t, "nil", nil)
}

// TestManyPages holds pages that look like chance, always the same ones, against
// the plain ones: of few words and of many, and of lengths around a page's.
func TestManyPages(t *testing.T) {
	next := steps(3)
	for at := range 2000 {
		kinds := next()%4 + 1
		stay := next() % 600
		w := next() % kinds
		page := pageOf(func(int) uint64 {
			if next()%600 >= stay {
				w = next() % kinds
			}
			return w * mixedWord
		})
		if at%10 == 0 {
			page = page[:4096-next()%20]
		}
		follows(t, fmt.Sprintf("page %d", at), page)
	}
}

// Pages of noise, whose words nearly all differ.
func TestPagesOfNoise(t *testing.T) {
	next := steps(4)
	for at := range 300 {
		follows(t, fmt.Sprintf("page %d", at), pageOf(func(int) uint64 { return next() }))
	}
}

// The page that is told is handed in again, and changed then.
func TestWhatIsToldIsHandedIn(t *testing.T) {
	page := same.Page(mixedWord)
	page[4095] = 0
	if w, ok := same.Of(page); w != 0 || ok || same.Runs(page) != 2 {
		t.Errorf("another byte: %#x, %t, %d", w, ok, same.Runs(page))
	}
	page[4095] = 8
	if w, ok := same.Of(page); w != mixedWord || !ok || same.Runs(page) != 1 {
		t.Errorf("as it was: %#x, %t, %d", w, ok, same.Runs(page))
	}
}
