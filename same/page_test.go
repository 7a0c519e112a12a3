package same_test

import (
	"bytes"
	"testing"

	"gunny/same"
)

// Promise 10.1, Page.

func TestPageHasItsWords(t *testing.T) {
	for _, w := range someWords {
		page := same.Page(w)
		if len(page) != 4096 {
			t.Fatalf("%#x: %d bytes", w, len(page))
		}
		if !bytes.Equal(page, allOf(w)) {
			t.Errorf("%#x: other bytes", w)
		}
	}
	next := steps(1)
	for range 300 {
		if w := next(); !bytes.Equal(same.Page(w), allOf(w)) {
			t.Fatalf("%#x: other bytes", w)
		}
	}
}

// Every byte is held against one that is written out here.
func TestPageByteByByte(t *testing.T) {
	rows := []struct {
		w    uint64
		want [8]byte
	}{
		{0, [8]byte{}},
		{1, [8]byte{1, 0, 0, 0, 0, 0, 0, 0}},
		{256, [8]byte{0, 1, 0, 0, 0, 0, 0, 0}},
		{mixedWord, [8]byte{1, 2, 3, 4, 5, 6, 7, 8}},
		{1 << 63, [8]byte{0, 0, 0, 0, 0, 0, 0, 128}},
		{greatest, [8]byte{255, 255, 255, 255, 255, 255, 255, 255}},
	}
	for _, row := range rows {
		page := same.Page(row.w)
		if len(page) != 4096 {
			t.Fatalf("%#x: %d bytes", row.w, len(page))
		}
		for at, b := range page {
			if b != row.want[at%8] {
				t.Fatalf("%#x: byte %d is %d, not %d", row.w, at, b, row.want[at%8])
			}
		}
	}
}

func TestPageIsNewMemory(t *testing.T) {
	for _, w := range []uint64{0, 1, mixedWord, greatest} {
		first := same.Page(w)
		second := same.Page(w)
		whole := first[:cap(first)]
		for i := range whole {
			whole[i] = 77
		}
		if !bytes.Equal(second, allOf(w)) {
			t.Errorf("%#x: two answers share memory", w)
		}
		if !bytes.Equal(same.Page(w), allOf(w)) {
			t.Errorf("%#x: a later answer is another one", w)
		}
		if !bytes.Equal(first, repeated(4096, 77)) {
			t.Errorf("%#x: what was told has changed", w)
		}
	}
}
