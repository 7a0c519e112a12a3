package match_test

import (
	"bytes"
	"testing"

	"gunny/match"
)

// Promise 12.1, New and Len.

func TestLen(t *testing.T) {
	for _, many := range []int{0, 1, 2, 3, 4, 5, 127, 130, 131, 255, 256, 512, 4094, 4095, 4096} {
		if got := match.New(pattern(many)).Len(); got != many {
			t.Errorf("of %d bytes: %d", many, got)
		}
	}
}

func TestLenOfMoreThanAPage(t *testing.T) {
	for _, many := range []int{4097, 4098, 4099, 4226, 5000, 8191, 8192, 8193, 65536, 65537} {
		if got := match.New(pattern(many)).Len(); got != 4096 {
			t.Errorf("of %d bytes: %d", many, got)
		}
	}
}

func TestNoBytes(t *testing.T) {
	for _, b := range [][]byte{nil, {}, make([]byte, 0, 100)} {
		f := match.New(b)
		if f == nil || f.Len() != 0 {
			t.Fatalf("of no bytes: %v", f)
		}
		tellsNothing(t, f)
	}
}

func TestNil(t *testing.T) {
	var f *match.Finder
	if got := f.Len(); got != 0 {
		t.Errorf("Len of a nil one: %d", got)
	}
	tellsNothing(t, f)
}

// tellsNothing fails if a finder tells a match, or bytes that are the same.
func tellsNothing(t *testing.T, f *match.Finder) {
	t.Helper()
	for _, at := range edges(9) {
		if long, dist := f.Find(at); long != 0 || dist != 0 {
			t.Errorf("Find(%d): %d, %d", at, long, dist)
		}
		for _, from := range edges(9) {
			if got := f.With(at, from); got != 0 {
				t.Errorf("With(%d, %d): %d", at, from, got)
			}
		}
	}
}

// Of more than a page the first bytes alone are there: what stands behind them
// makes no match longer, and is no place.
func TestMoreThanAPage(t *testing.T) {
	for _, more := range []int{1, 2, 3, 129, 130, 4096, 70000} {
		b := again(4096+more, 100)
		f := match.New(b)
		for _, at := range []int{4000, 4093, 4094, 4095, 4096, 4097, 4096 + more - 1, 4096 + more} {
			finds(t, f, b, at)
			isWith(t, f, b, at, at-100)
			isWith(t, f, b, at, 0)
		}
		if long, dist := f.Find(4000); long != 96 || dist != 100 {
			t.Errorf("%d more: Find(4000): %d, %d", more, long, dist)
		}
		if long := f.With(4096, 3996); long != 0 {
			t.Errorf("%d more: With(4096, 3996): %d", more, long)
		}
	}
}

// What lies behind the list's length isn't read: it neither is a place nor makes
// a match longer.
func TestBytesBehindTheLength(t *testing.T) {
	for _, many := range []int{0, 1, 2, 3, 4, 5, 10, 130, 300, 4095} {
		long := bytes.Repeat([]byte{5, 6}, 3000)
		f := match.New(long[:many])
		if f.Len() != many {
			t.Fatalf("%d bytes: Len %d", many, f.Len())
		}
		for at := max(0, many-140); at < many+140; at++ {
			finds(t, f, long[:many], at)
			isWith(t, f, long[:many], at, at-2)
		}
		if !bytes.Equal(long, bytes.Repeat([]byte{5, 6}, 3000)) {
			t.Fatalf("%d bytes: what was handed in, or what lies behind it, has changed", many)
		}
	}
}

// Bytes that are changed behind New change nothing that the finder tells.
func TestBytesChangedBehindNew(t *testing.T) {
	for _, many := range []int{3, 9, 200, 4096, 5000} {
		b := again(many, 7)
		was := bytes.Clone(b)
		f := match.New(b)
		if !bytes.Equal(b, was) {
			t.Fatalf("%d bytes: New has changed them", many)
		}
		for i := range b {
			b[i] = byte(i * i)
		}
		for at := 0; at < many; at += 1 + many/300 {
			finds(t, f, was, at)
			isWith(t, f, was, at, at-7)
			isWith(t, f, was, at, at-1)
		}
		if got := f.Len(); got != min(many, 4096) {
			t.Errorf("%d bytes: Len %d", many, got)
		}
	}
}

// Finders stand side by side, and each tells of its own bytes.
func TestFindersSideBySide(t *testing.T) {
	a, b := again(1000, 5), again(900, 11)
	f, g := match.New(a), match.New(b)
	h := match.New(a)
	for at := range 1000 {
		finds(t, f, a, at)
		finds(t, g, b, at)
		finds(t, h, a, at)
	}
	if f.Len() != 1000 || g.Len() != 900 || h.Len() != 1000 {
		t.Errorf("%d, %d, %d", f.Len(), g.Len(), h.Len())
	}
}
