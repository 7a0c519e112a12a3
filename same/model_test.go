package same_test

import (
	"bytes"
	"math"
	"testing"

	"gunny/same"
)

// mixedWord has eight bytes that are all different, so that their order is seen.
const mixedWord = 0x0807060504030201

// greatest is the word all of whose bits are 1.
const greatest = math.MaxUint64

// someWords are words of which pages are made: the least and the greatest ones,
// ones of one byte, and ones whose halves, or bytes, are different.
var someWords = []uint64{
	0, 1, 2, 255, 256, 0x0101010101010101, mixedWord, 0x0102030405060708, 0xf0e1d2c3b4a59687,
	math.MaxUint32, math.MaxUint32 << 32, 1 << 31, 1 << 32, 1 << 55, 1 << 56, 1 << 63, math.MaxInt64, greatest - 1, greatest,
}

// lengths are those that no page has.
var lengths = []int{0, 1, 2, 7, 8, 9, 16, 511, 512, 513, 2048, 4087, 4088, 4089, 4095, 4097, 4103, 4104, 4105, 8184, 8191, 8192, 8193, 65536}

// pageOf is the page whose words a function tells, made by division alone, so
// that it shares no way of working with same.
func pageOf(word func(i int) uint64) []byte {
	var page []byte
	for i := range 512 {
		w := word(i)
		for range 8 {
			page = append(page, byte(w%256))
			w /= 256
		}
	}
	return page
}

// allOf is the page of one word.
func allOf(w uint64) []byte {
	return pageOf(func(int) uint64 { return w })
}

// oneOther is the page of w whose word at a place is another one.
func oneOther(w, other uint64, at int) []byte {
	return pageOf(func(i int) uint64 {
		if i == at {
			return other
		}
		return w
	})
}

// repeated is so many bytes that are all the same.
func repeated(many int, b byte) []byte {
	return bytes.Repeat([]byte{b}, many)
}

// plainRuns counts stretches by bytes that are held against each other.
func plainRuns(page []byte) int {
	if len(page) != 4096 {
		return 0
	}
	var starts [][]byte
	for at := 0; at < 4096; at += 8 {
		if at == 0 || string(page[at:at+8]) != string(page[at-8:at]) {
			starts = append(starts, page[at:at+8])
		}
	}
	return len(starts)
}

// plainOf is the word of a page that is but its first eight bytes again and again.
func plainOf(page []byte) (uint64, bool) {
	if len(page) != 4096 || !bytes.Equal(page, bytes.Repeat(page[:8], 512)) {
		return 0, false
	}
	var w uint64
	for i := 7; i >= 0; i-- {
		w = w*256 + uint64(page[i])
	}
	return w, true
}

// isAs fails if any call tells of these bytes what the plain ones don't, or
// changes them.
func isAs(t *testing.T, name string, page []byte) {
	t.Helper()
	was := bytes.Clone(page)
	wantWord, wantOk := plainOf(page)
	if w, ok := same.Of(page); w != wantWord || ok != wantOk {
		t.Errorf("%s: Of %#x, %t, not %#x, %t", name, w, ok, wantWord, wantOk)
	}
	if got, want := same.Runs(page), plainRuns(page); got != want {
		t.Errorf("%s: Runs %d, not %d", name, got, want)
	}
	if !bytes.Equal(page, was) {
		t.Errorf("%s: handed in, and changed", name)
	}
}

// steps tells numbers that look like chance, always the same ones.
func steps(seed uint64) func() uint64 {
	state := seed
	return func() uint64 {
		state += 0x9e3779b97f4a7c15
		z := (state ^ state>>30) * 0xbf58476d1ce4e5b9
		z = (z ^ z>>27) * 0x94d049bb133111eb
		return z ^ z>>31
	}
}
