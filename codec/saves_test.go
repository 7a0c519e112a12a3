package codec_test

import (
	"bytes"
	"slices"
	"testing"

	"gunny/codec"
	"gunny/squeeze"
)

// Promise 14.2.

// saves fails if anything else is saved by a page, or if it is changed.
func saves(t *testing.T, page []byte, want int) {
	t.Helper()
	was := bytes.Clone(page)
	if got := codec.Saves(page); got != want {
		t.Errorf("of %d bytes (%d ..): %d, not %d", len(page), start(page), got, want)
	}
	if !bytes.Equal(page, was) {
		t.Errorf("%d bytes (%d ..) have changed", len(was), start(was))
	}
}

func TestSavesOfWhatIsNoPage(t *testing.T) {
	long := slices.Concat(unlike(1), unlike(2))
	for _, b := range [][]byte{nil, {}, make([]byte, 0, 4096), long[:0]} {
		saves(t, b, 0)
	}
	for _, many := range []int{1, 2, 7, 8, 9, 512, 3072, 4088, 4095, 4097, 4104, 4128, 8191, 8192} {
		saves(t, long[:many], 0)
		saves(t, make([]byte, many), 0)
	}
	saves(t, make([]byte, 1<<20), 0)
}

func TestSavesOfPagesOfOneWord(t *testing.T) {
	for _, page := range wordPages() {
		saves(t, page, 4088)
	}
}

func TestSavesOfPackedPages(t *testing.T) {
	saves(t, packedTo(t, 3070), 1026)
	saves(t, packedTo(t, 3071), 1025)
	saves(t, packedTo(t, 3072), 1024)
	for _, page := range [][]byte{again(1, 2, 3), append(make([]byte, 4095), 1), unlikeUpTo(100, 1), unlikeUpTo(1000, 1), ofKinds(2, 1)} {
		packed, _ := squeeze.Pack(page)
		saves(t, page, 4096-len(packed))
	}
}

func TestSavesOfPagesThatAreKeptAsTheyAre(t *testing.T) {
	saves(t, packedTo(t, 3073), 0)
	saves(t, packedTo(t, 3074), 0)
	saves(t, packedTo(t, 4095), 0)
	saves(t, ofKinds(256, 1), 0)
	for seed := range uint64(10) {
		saves(t, unlike(seed), 0)
	}
}

func TestSavesKeepsToTheLength(t *testing.T) {
	long := slices.Concat(make([]byte, 4096), unlike(1))
	saves(t, long[:4095], 0)
	saves(t, long[:4096], 4088)
	saves(t, long[:4097], 0)
	saves(t, long[4096:], 0)
}

func TestSavesKeepsNothing(t *testing.T) {
	for range 3 {
		saves(t, unlike(1), 0)
		saves(t, again(9), 4088)
		saves(t, nil, 0)
		saves(t, packedTo(t, 3072), 1024)
	}
}
