package zspage_test

import (
	"math"
	"slices"
	"testing"

	"gunny/zspage"
)

// Promise 16.1

func TestPieces(t *testing.T) {
	for _, c := range []struct {
		size, n, from, many int
		want                []zspage.Piece
	}{
		{3008, 1, 0, 3008, []zspage.Piece{{0, 3008, 1088}, {1, 0, 1920}}},
		{3008, 0, 0, 3008, []zspage.Piece{{0, 0, 3008}}},
		{3008, 2, 0, 3008, []zspage.Piece{{1, 1920, 2176}, {2, 0, 832}}},
		{3008, 3, 0, 3008, []zspage.Piece{{2, 832, 3008}}},
		{3008, 1, 0, 1088, []zspage.Piece{{0, 3008, 1088}}},
		{3008, 1, 0, 1089, []zspage.Piece{{0, 3008, 1088}, {1, 0, 1}}},
		{3008, 1, 1087, 1, []zspage.Piece{{0, 4095, 1}}},
		{3008, 1, 1087, 2, []zspage.Piece{{0, 4095, 1}, {1, 0, 1}}},
		{3008, 1, 1088, 1, []zspage.Piece{{1, 0, 1}}},
		{3008, 1, 1088, 1920, []zspage.Piece{{1, 0, 1920}}},
		{3008, 1, 1089, 1919, []zspage.Piece{{1, 1, 1919}}},
		{3008, 1, 3007, 1, []zspage.Piece{{1, 1919, 1}}},
		{3008, 1, 10, 20, []zspage.Piece{{0, 3018, 20}}},
		{3008, 1, 3007, 2, nil},
		{3008, 1, 3008, 1, nil},
		{3008, 1, -1, 3008, nil},
		{3008, 1, 0, 3009, nil},
		{3008, 1, 5, 0, nil},
		{3008, 1, 5, -1, nil},
		{64, 0, 0, 64, []zspage.Piece{{0, 0, 64}}},
		{64, 63, 0, 64, []zspage.Piece{{0, 4032, 64}}},
		{64, 64, 0, 64, []zspage.Piece{{1, 0, 64}}},
		{64, 255, 63, 1, []zspage.Piece{{3, 4095, 1}}},
		{64, 256, 0, 1, nil},
		{4096, 0, 0, 4096, []zspage.Piece{{0, 0, 4096}}},
		{4096, 7, 4095, 1, []zspage.Piece{{7, 4095, 1}}},
		{4096, 255, 0, 4096, []zspage.Piece{{255, 0, 4096}}},
		{4032, 1, 0, 64, []zspage.Piece{{0, 4032, 64}}},
		{4032, 1, 0, 4032, []zspage.Piece{{0, 4032, 64}, {1, 0, 3968}}},
		{4032, 63, 0, 4032, []zspage.Piece{{62, 64, 4032}}},
		{4032, 255, 4031, 1, []zspage.Piece{{251, 4095, 1}}},
		{2112, 1, 0, 2112, []zspage.Piece{{0, 2112, 1984}, {1, 0, 128}}},
		{192, 21, 0, 192, []zspage.Piece{{0, 4032, 64}, {1, 0, 128}}},
		{192, 42, 0, 192, []zspage.Piece{{1, 3968, 128}, {2, 0, 64}}},
	} {
		if got := zspage.Pieces(c.size, c.n, c.from, c.many); !slices.Equal(got, c.want) {
			t.Errorf("Pieces(%d, %d, %d, %d): %v, not %v", c.size, c.n, c.from, c.many, got, c.want)
		}
	}
}

func TestPiecesOfAllObjects(t *testing.T) {
	for _, size := range allSizes() {
		for n := range 256 {
			checkPieces(t, size, n, 0, size)
			checkPieces(t, size, n, size-1, 1)
			checkPieces(t, size, n, size-1, 2)
			checkPieces(t, size, n, size, 1)
			checkPieces(t, size, n, 0, 0)
		}
	}
}

// Of each object of two sizes, where the frame ends within it, all parts near there.
func TestPiecesNearTheEndOfAFrame(t *testing.T) {
	for _, size := range []int{192, 3008} {
		for n := range 256 {
			border := (4096 - n*size%4096) % 4096
			for from := border - 3; from <= border+3; from++ {
				for many := -1; many <= 7; many++ {
					checkPieces(t, size, n, from, many)
				}
			}
		}
	}
}

func TestPiecesOfParts(t *testing.T) {
	for _, size := range allSizes() {
		for _, n := range someObjects {
			for _, p := range anyParts(size) {
				checkPieces(t, size, n, p.from, p.many)
			}
		}
	}
}

// Every part of two small objects, one of which lies across two frames.
func TestPiecesOfEveryPart(t *testing.T) {
	for _, n := range []int{20, 21} {
		for from := -2; from < 195; from++ {
			for many := -2; many < 197; many++ {
				checkPieces(t, 192, n, from, many)
			}
		}
	}
}

func TestPiecesOfSizesThatMayNotBe(t *testing.T) {
	for _, size := range noSizes {
		for _, n := range []int{0, 1, 2, 255} {
			for _, p := range []part{{0, 1}, {0, 2}, {1, 1}, {0, 63}, {0, size}, {0, size - 1}, {size - 1, 1}, {0, 4096}, {-1, 1}, {0, math.MaxInt}} {
				if got := zspage.Pieces(size, n, p.from, p.many); len(got) > 0 {
					t.Errorf("Pieces(%d, %d, %d, %d): %v", size, n, p.from, p.many, got)
				}
			}
		}
	}
	for size := -70; size < 4300; size++ {
		checkPieces(t, size, 1, 0, 1)
		checkPieces(t, size, 3, 0, size)
	}
}

func TestPiecesOfObjectsThatMayNotBe(t *testing.T) {
	for _, n := range noObjects {
		for _, size := range allSizes() {
			for _, p := range []part{{0, 1}, {0, size}, {size - 1, 1}, {1, 2}} {
				if got := zspage.Pieces(size, n, p.from, p.many); len(got) > 0 {
					t.Errorf("Pieces(%d, %d, %d, %d): %v", size, n, p.from, p.many, got)
				}
			}
		}
	}
	for n := -300; n < 600; n++ {
		checkPieces(t, 64, n, 0, 64)
		checkPieces(t, 4096, n, 0, 4096)
	}
}

func TestPiecesOfPartsThatMayNotBe(t *testing.T) {
	for _, size := range allSizes() {
		for _, n := range []int{0, 1, 255} {
			for _, p := range noParts(size) {
				if got := zspage.Pieces(size, n, p.from, p.many); len(got) > 0 {
					t.Errorf("Pieces(%d, %d, %d, %d): %v", size, n, p.from, p.many, got)
				}
			}
		}
	}
}

func TestPiecesOfNoBytes(t *testing.T) {
	for _, size := range append(slices.Clone(noSizes), someSizes...) {
		for _, n := range append(slices.Clone(noObjects), 0, 1, 255) {
			for _, from := range append(slices.Clone(fewNumbers), size-1, size, size+1) {
				for _, many := range []int{0, -1, -2, -64, -size, -4096, -1 << 32, -1<<32 + 1, -1 << 62, math.MinInt, math.MinInt + 1} {
					if got := zspage.Pieces(size, n, from, min(many, 0)); len(got) > 0 {
						t.Fatalf("Pieces(%d, %d, %d, %d): %v", size, n, from, min(many, 0), got)
					}
				}
			}
		}
	}
}

func TestPiecesOfFewNumbersAnywhere(t *testing.T) {
	for _, size := range fewNumbers {
		for _, n := range fewNumbers {
			for _, from := range fewNumbers {
				for _, many := range fewNumbers {
					checkPieces(t, size, n, from, many)
				}
			}
		}
	}
}

func TestPiecesAreNewMemory(t *testing.T) {
	a, b := zspage.Pieces(3008, 1, 0, 3008), zspage.Pieces(3008, 1, 0, 3008)
	a[0], a[1] = zspage.Piece{Frame: 9, At: 9, Len: 9}, zspage.Piece{}
	_ = append(a, zspage.Piece{Frame: 7})
	want := plainPieces(3008, 1, 0, 3008)
	if got := zspage.Pieces(3008, 1, 0, 3008); !slices.Equal(b, want) || !slices.Equal(got, want) {
		t.Errorf("behind a change of another answer: %v, %v, not %v", b, got, want)
	}
}
