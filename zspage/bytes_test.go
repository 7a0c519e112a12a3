package zspage_test

import (
	"bytes"
	"math"
	"slices"
	"testing"

	"gunny/zspage"
)

// Promise 16.2

func TestReadAndWriteOfTheExample(t *testing.T) {
	b := newPair(t)
	row := []int{9, 2, 14}
	what := pattern(3008, 1)
	if !zspage.Write(b.r, row, 3008, 1, 0, what) {
		t.Fatal("Write: false")
	}
	first, _ := b.r.Read(9, 3008, 1088)
	second, _ := b.r.Read(2, 0, 1920)
	if !bytes.Equal(first, what[:1088]) || !bytes.Equal(second, what[1088:]) {
		t.Error("the bytes stand elsewhere")
	}
	if got, ok := zspage.Read(b.r, row, 3008, 1, 0, 3008); !bytes.Equal(got, what) || !ok {
		t.Errorf("Read: %d bytes, %t, or other ones", len(got), ok)
	}
	if got, ok := zspage.Read(b.r, row, 3008, 1, 1087, 2); !bytes.Equal(got, what[1087:1089]) || !ok {
		t.Errorf("Read across: %d, %t", got, ok)
	}
	if got, ok := zspage.Read(b.r, row, 3008, 1, 3007, 2); len(got) > 0 || ok {
		t.Errorf("Read past the end: %d, %t", got, ok)
	}
	if zspage.Write(b.r, row, 3008, 1, 3008, []byte{1}) {
		t.Error("Write at the end: true")
	}
}

func TestReadAndWriteOfAllObjectsInRows(t *testing.T) {
	for _, size := range someSizes {
		b := newPair(t)
		for at, row := range rows {
			for n := range objects(size, len(row)) {
				b.read(row, size, n, 0, size)
				b.fill(row, size, n, 13*at+n)
				b.read(row, size, n, size-1, 1)
			}
			b.tellsSame()
		}
	}
}

func TestReadAndWriteOfParts(t *testing.T) {
	for _, size := range someSizes {
		b := newPair(t)
		for at, row := range [][]int{{5}, {7, 3}, {12, 11, 10}, {15, 0, 8, 4}} {
			for n := range 6 {
				for _, from := range append(edges(size), -1, size+1) {
					for _, many := range []int{-1, 0, 1, 2, 3, 700, size - from - 1, size - from, size - from + 1} {
						b.read(row, size, n, from, many)
						b.write(row, size, n, from, pattern(max(many, 0), at+from))
					}
				}
				b.tellsSame()
			}
		}
	}
}

// refused asks for a Read and a Write that have to be refused.
func refused(b *pair, row []int, size, n, from, many int) {
	b.Helper()
	if b.read(row, size, n, from, many) {
		b.Fatalf("Read(%d, %d, %d, %d, %d): true", row, size, n, from, many)
	}
	if many > 0 && many < 10000 && b.write(row, size, n, from, pattern(many, 3)) {
		b.Fatalf("Write(%d, %d, %d, %d, %d bytes): true", row, size, n, from, many)
	}
}

func TestNoSuchBytes(t *testing.T) {
	b := newPair(t)
	row := []int{4, 9, 1, 6}
	for _, size := range someSizes {
		for _, p := range noParts(size) {
			for _, n := range []int{0, 1, 2, 255} {
				refused(b, row, size, n, p.from, p.many)
			}
		}
		for _, n := range noObjects {
			refused(b, row, size, n, 0, 1)
			refused(b, row, size, n, 0, size)
			refused(b, row, size, n, size-1, 1)
		}
	}
	for _, size := range noSizes {
		for _, p := range []part{{0, 1}, {0, 64}, {1, 1}, {0, 4096}, {max(size-1, 0), 1}, {0, max(size, 1)}} {
			refused(b, row, size, 0, p.from, p.many)
			refused(b, row, size, 1, p.from, p.many)
		}
	}
	b.tellsSame()
}

func TestFewNumbersAnywhere(t *testing.T) {
	b := newPair(t)
	row := []int{4, 9, 1, 6}
	for _, size := range fewNumbers {
		for _, n := range fewNumbers {
			for _, from := range fewNumbers {
				for _, many := range fewNumbers {
					b.read(row, size, n, from, many)
					b.read(nil, size, n, from, many)
					if many >= 0 && many < 10000 {
						b.write(row, size, n, from, pattern(many, 8))
						b.write(nil, size, n, from, pattern(many, 9))
					}
				}
			}
		}
	}
	b.tellsSame()
}

func TestRowsThatAreTooShort(t *testing.T) {
	b := newPair(t)
	row := []int{8, 3, 13, 2}
	for _, size := range someSizes {
		for long := range 5 {
			for n := range 256 {
				b.read(row[:long], size, n, 0, size)
				b.write(row[:long], size, n, 0, pattern(size, n))
			}
			for _, n := range someObjects {
				b.read(row[:long], size, n, size-1, 1)
				b.read(row[:long], size, n, 0, 1)
			}
			b.tellsSame()
		}
	}
	refused(b, nil, 64, 0, 0, 1)
	refused(b, []int{}, 64, 0, 0, 64)
	refused(b, []int{0}, 64, 64, 0, 1)
	refused(b, []int{0, 1}, 3008, 2, 0, 3008)
	refused(b, []int{0}, 3008, 1, 1087, 2)
	refused(b, []int{0}, 3008, 1, 1088, 1)
	refused(b, []int{0, 1, 2, 3}, 4096, 4, 0, 1)
	if !b.read([]int{0}, 3008, 1, 0, 1088) || !b.write([]int{0}, 3008, 1, 1087, []byte{1}) {
		t.Error("what lies in the first frame alone is refused")
	}
	b.tellsSame()
}

// noFrames are numbers of frames that the RAM of a pair hasn't, and one that is
// Free there.
var noFrames = []int{
	math.MinInt, math.MinInt + 3, -1 << 62, -1 << 52, -1 << 32, -1<<32 + 1, -17, -16, -15, -4096, -2, -1,
	11, 16, 17, 32, 95, 96, 256, 4096, 1 << 31, 1 << 32, 1<<32 + 1, 1 << 52, 1<<52 + 2, 1 << 62, math.MaxInt - 1, math.MaxInt,
}

func TestFramesThatAreFreeOrNot(t *testing.T) {
	b := newPair(t, 11)
	for _, none := range noFrames {
		for at := range 4 {
			row := []int{0, 9, 3, 14}
			row[at] = none
			for _, size := range someSizes {
				for n := range min(objects(size, 4), 8) {
					b.read(row, size, n, 0, size)
					b.write(row, size, n, 0, pattern(size, none))
					b.read(row, size, n, size/2, size/2)
				}
			}
		}
		b.tellsSame()
	}
}

// Of an object that lies across two frames, what lies in the one that is there
// isn't changed by a Write that is refused.
func TestRefusedInOneFrameChangesNoOther(t *testing.T) {
	b := newPair(t, 11)
	for _, none := range noFrames {
		refused(b, []int{0, none}, 3008, 1, 0, 3008)
		refused(b, []int{none, 0}, 3008, 1, 0, 3008)
		refused(b, []int{0, none}, 3008, 1, 1087, 2)
		refused(b, []int{none, 0}, 3008, 1, 1087, 2)
		refused(b, []int{none}, 3008, 1, 0, 1)
		b.tellsSame()
		if !b.read([]int{0, none}, 3008, 1, 0, 1088) || !b.write([]int{0, none}, 3008, 1, 0, pattern(1088, 4)) {
			t.Errorf("what lies in frame 0 alone is refused beside %d", none)
		}
		if !b.read([]int{none, 0}, 3008, 1, 1088, 1920) || !b.write([]int{none, 0}, 3008, 1, 1088, pattern(1920, 5)) {
			t.Errorf("what lies in frame 0 alone is refused behind %d", none)
		}
		if !b.fill([]int{0, none, none, none}, 3008, 0, 6) || !b.fill([]int{none, none, 0}, 3008, 3, 7) {
			t.Errorf("an object in frame 0 is refused beside %d", none)
		}
		b.tellsSame()
	}
}

func TestFramesThatAreGivenAndTakenAnew(t *testing.T) {
	b := newPair(t)
	row := []int{6, 2}
	b.fill(row, 3008, 1, 1)
	b.r.Give(2)
	delete(b.pages, 2)
	refused(b, row, 3008, 1, 0, 3008)
	b.tellsSame()
	if n, ok := b.r.Take(1); n != 2 || !ok {
		t.Fatalf("Take: %d, %t", n, ok)
	}
	b.pages[2] = make([]byte, 4096)
	b.read(row, 3008, 1, 0, 3008)
	b.fill(row, 3008, 1, 2)
	b.tellsSame()
}

// A row may be as long as the last objects need. Only frames in which a piece
// lies are asked for.
func TestLastObjectsInLongRows(t *testing.T) {
	b := newPair(t, 11)
	for _, size := range someSizes {
		pieces := plainPieces(size, 255, 0, size)
		row := slices.Repeat([]int{-1}, pieces[len(pieces)-1].Frame+1)
		for at, p := range pieces {
			row[p.Frame] = 5 - 2*at
		}
		if !b.fill(row, size, 255, size) || !b.read(row, size, 255, 0, size) {
			t.Errorf("the last object of %d bytes is refused", size)
		}
		refused(b, row, size, 256, 0, 1)
		refused(b, append(row, 5), size, 256, 0, 1)
		refused(b, row[:len(row)-1], size, 255, size-1, 1)
		b.tellsSame()
	}
}

func TestNoBytes(t *testing.T) {
	b := newPair(t, 11)
	for _, row := range [][]int{nil, {}, {0}, {11}, {-1}, {16}, {0, 1, 2, 3}, {11, -1, 16, math.MaxInt}} {
		for _, size := range append(slices.Clone(noSizes), 64, 3008, 4096) {
			for _, n := range append(slices.Clone(noObjects), 0, 1, 255) {
				for _, from := range []int{0, 1, size - 1, size, size + 1, -1, math.MinInt, math.MaxInt} {
					got, ok := zspage.Read(b.r, row, size, n, from, 0)
					if len(got) > 0 || !ok {
						t.Fatalf("Read(%d, %d, %d, %d, 0): %d, %t", row, size, n, from, got, ok)
					}
					if !zspage.Write(b.r, row, size, n, from, nil) || !zspage.Write(b.r, row, size, n, from, []byte{}) {
						t.Fatalf("Write(%d, %d, %d, %d) of none: false", row, size, n, from)
					}
				}
			}
		}
	}
	b.tellsSame()
}

func TestLessThanNoBytes(t *testing.T) {
	b := newPair(t, 11)
	for _, row := range [][]int{nil, {0}, {11}, {0, 1, 2, 3}} {
		for _, size := range append(slices.Clone(someSizes), noSizes...) {
			for _, n := range []int{math.MinInt, -1, 0, 1, 255, 256, math.MaxInt} {
				for _, from := range append(slices.Clone(fewNumbers), size-1, size, size+1) {
					for _, many := range []int{-1, -2, -64, -4096, -1 << 32, -1<<32 + 1, -1 << 62, math.MinInt, math.MinInt + 1} {
						got, ok := zspage.Read(b.r, row, size, n, from, many)
						if len(got) > 0 || ok {
							t.Fatalf("Read(%d, %d, %d, %d, %d): %d, %t", row, size, n, from, many, got, ok)
						}
					}
				}
			}
		}
	}
	b.tellsSame()
}

func TestNilRAM(t *testing.T) {
	for _, row := range [][]int{nil, {0}, {-1}, {0, 1, 2, 3}, {math.MaxInt, math.MinInt}} {
		for _, size := range fewNumbers {
			for _, n := range fewNumbers {
				for _, from := range fewNumbers {
					for _, many := range fewNumbers {
						got, ok := zspage.Read(nil, row, size, n, from, many)
						if len(got) > 0 || ok != (many == 0) {
							t.Fatalf("Read(nil, %d, %d, %d, %d, %d): %d, %t", row, size, n, from, many, got, ok)
						}
					}
					if zspage.Write(nil, row, size, n, from, []byte{1}) || !zspage.Write(nil, row, size, n, from, nil) {
						t.Fatalf("Write(nil, %d, %d, %d, %d)", row, size, n, from)
					}
				}
			}
		}
	}
}

func TestWhatIsHandedInStays(t *testing.T) {
	b := newPair(t)
	whole := pattern(4096, 9)
	rowAndMore := []int{7, 3, 12, 1}
	what, row := slices.Clone(whole), slices.Clone(rowAndMore)
	b.write(row[:2], 3008, 1, 0, what[:3008])
	b.read(row[:2], 3008, 1, 0, 3008)
	refused(b, row[:1], 3008, 1, 0, 3008)
	refused(b, row[:2], 3008, 2, 0, 3008)
	if !bytes.Equal(what, whole) || !slices.Equal(row, rowAndMore) {
		t.Error("what was handed in is changed")
	}
	b.tellsSame()
	clear(what)
	clear(row)
	b.tellsSame()
	b.read(rowAndMore, 3008, 1, 0, 3008)
}

func TestBytesReadAreTheCallersOwn(t *testing.T) {
	b := newPair(t)
	row := []int{7, 3}
	for _, p := range []part{{0, 3008}, {0, 1088}, {1088, 1920}, {1087, 2}, {0, 1}} {
		first, _ := zspage.Read(b.r, row, 3008, 1, p.from, p.many)
		second, _ := zspage.Read(b.r, row, 3008, 1, p.from, p.many)
		want := slices.Clone(second)
		for i := range first {
			first[i]++
		}
		_ = append(first, 1, 2, 3)
		if !bytes.Equal(second, want) {
			t.Errorf("answers of %v share memory", p)
		}
		b.touches = b.r.Touches()
		b.tellsSame()
		b.write(row, 3008, 1, p.from, pattern(p.many, 77))
		if !bytes.Equal(second, want) {
			t.Errorf("an answer of %v changed by a Write", p)
		}
		b.tellsSame()
	}
}
