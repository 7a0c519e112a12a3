package zspage_test

import (
	"bytes"
	"math"
	"slices"
	"testing"

	"gunny/api"
	"gunny/ram"
	"gunny/zspage"
)

// someSizes are sizes that objects may have: the ends, those that frames hold
// whole, and those of which objects lie across frames.
var someSizes = []int{64, 128, 192, 448, 1024, 1408, 2048, 2112, 3008, 3072, 4032, 4096}

// noSizes are sizes that no object has.
var noSizes = []int{
	math.MinInt, math.MinInt + 1, math.MinInt + 64, math.MinInt + 4096, -1 << 62, -1<<62 + 64, -1 << 32, -1<<32 + 64, -1<<32 + 3008,
	-8192, -4160, -4096, -3008, -128, -65, -64, -63, -1,
	0, 1, 2, 8, 32, 63, 65, 66, 96, 100, 127, 129, 1000, 2047, 3000, 3007, 3009, 4000, 4031, 4033, 4095,
	4097, 4098, 4128, 4160, 4224, 8192, 65536, 1 << 31, 1<<31 + 64, 1 << 32, 1<<32 + 64, 1<<32 + 4096, 1 << 62, 1<<62 + 64,
	math.MaxInt - 63, math.MaxInt - 1, math.MaxInt,
}

// someObjects are numbers that objects may have.
var someObjects = []int{0, 1, 2, 3, 4, 5, 7, 31, 63, 64, 127, 128, 200, 254, 255}

// noObjects are numbers that no object has. Of some of them the place of the
// first byte is one that a row has, if it is counted in 64 bits or in 32.
var noObjects = []int{
	math.MinInt, math.MinInt + 1, math.MinInt + 255, -1 << 62, -1<<62 + 1, -1 << 58, -1<<58 + 1, -1 << 52, -1 << 32, -1<<32 + 1, -1 << 26,
	-4096, -257, -256, -255, -64, -2, -1,
	256, 257, 258, 511, 512, 1023, 4096, 65536, 1 << 20, 1 << 26, 1<<26 + 1, 1 << 31, 1 << 32, 1<<32 + 1, 1 << 52, 1<<52 + 1, 1 << 58, 1<<58 + 1,
	1 << 62, 1<<62 + 1, math.MaxInt - 1, math.MaxInt,
}

// part is bytes of an object: from where on, how many.
type part struct{ from, many int }

// noParts are parts of above 0 bytes that aren't all of an object of that size.
func noParts(size int) []part {
	return []part{
		{0, size + 1}, {1, size}, {size - 1, 2}, {size, 1}, {size + 1, 1}, {size, size}, {size + 64, 1}, {2 * size, 1}, {0, 2 * size},
		{0, size + 64}, {0, 4097}, {0, 8192}, {4096, 1}, {4095, 2}, {8192, 64},
		{-1, 1}, {-1, 2}, {-1, size}, {-1, size + 1}, {-1, size + 2}, {-64, 64}, {-64, 65}, {-size, size}, {-size, 2 * size}, {-4096, 4097},
		{0, math.MaxInt}, {1, math.MaxInt}, {size, math.MaxInt}, {size, math.MaxInt - size + 1}, {0, math.MaxInt - 1},
		{math.MaxInt, 1}, {math.MaxInt, 2}, {math.MaxInt, size}, {math.MaxInt, math.MaxInt}, {math.MaxInt - size + 1, size},
		{math.MinInt, 1}, {math.MinInt, size}, {math.MinInt, math.MaxInt}, {math.MinInt + 1, math.MaxInt}, {-size, math.MaxInt}, {-1, math.MaxInt},
		{1 << 32, 1}, {0, 1 << 32}, {1<<32 + 1, 1}, {1, 1<<32 + 1}, {-1 << 32, 1}, {-1<<32 + 1, 1}, {1 << 62, 1 << 62}, {1 << 62, 1},
	}
}

// anyParts are parts some of which an object of that size has, some not.
func anyParts(size int) []part {
	out := noParts(size)
	for _, from := range append(edges(size), math.MinInt, -1, size+1, 4096, 4097, math.MaxInt) {
		for _, many := range []int{1, 2, size / 2, size - from, size - from + 1} {
			out = append(out, part{from, many})
		}
	}
	return out
}

// edges are bytes of an object of that size, and its end, near which something
// may go wrong.
func edges(size int) []int {
	out := []int{0, 1, size / 3, size / 2, size - 2, size - 1, size}
	for n := 1; n*size < 5*4096; n++ {
		if border := 4096 - n*size%4096; border < size {
			out = append(out, border-1, border, border+1)
		}
	}
	slices.Sort(out)
	return slices.Compact(out)
}

// fewNumbers are numbers for any place at which one is asked for.
var fewNumbers = []int{math.MinInt, -64, -1, 0, 1, 64, 255, 256, 3008, 4096, 4097, math.MaxInt}

// allSizes are those that objects may have.
func allSizes() []int {
	var out []int
	for many := 1; many <= 64; many++ {
		out = append(out, 64*many)
	}
	return out
}

// isAny tells whether there is such an object, and it has all of these bytes.
func isAny(size, n, from, many int) bool {
	ends := from >= 0 && from <= size && many > 0 && many <= size && from+many <= size
	return slices.Contains(allSizes(), size) && 0 <= n && n < 256 && ends
}

// plainPieces goes through bytes one by one: in which frame each lies, and where.
func plainPieces(size, n, from, many int) []zspage.Piece {
	if !isAny(size, n, from, many) {
		return nil
	}
	var out []zspage.Piece
	for i := range many {
		place := size*n + from + i
		frame, at := place/4096, place%4096
		if i == 0 || out[len(out)-1].Frame != frame {
			out = append(out, zspage.Piece{Frame: frame, At: at})
		}
		out[len(out)-1].Len++
	}
	return out
}

func checkPieces(t *testing.T, size, n, from, many int) {
	t.Helper()
	got := zspage.Pieces(size, n, from, many)
	if want := plainPieces(size, n, from, many); !slices.Equal(got, want) {
		t.Fatalf("Pieces(%d, %d, %d, %d): %v, not %v", size, n, from, many, got, want)
	}
}

// pair is a RAM, and beside it the bytes of each of its frames that isn't Free,
// and how often it is touched.
type pair struct {
	*testing.T
	r       *ram.RAM
	pages   map[int][]byte
	touches int
}

// newPair is a RAM of 16 frames in use, all bytes of which are written, but for
// those that are given back then.
func newPair(t *testing.T, given ...int) *pair {
	t.Helper()
	r, err := ram.New(16)
	if err != api.OK {
		t.Fatal(err)
	}
	b := &pair{t, r, map[int][]byte{}, 0}
	owners := []int{api.Pool, api.Pool, api.User, api.Pool, api.Table}
	for at := range 16 {
		n, _ := r.Take(owners[at%len(owners)])
		b.pages[n] = pattern(4096, 37*n+5)
		r.Write(n, 0, b.pages[n])
	}
	for _, n := range given {
		r.Give(n)
		delete(b.pages, n)
	}
	b.touches = r.Touches()
	return b
}

// places are where bytes of an object lie, each as the frame of the RAM and the
// place there; false, if they are to be refused.
func (b *pair) places(row []int, size, n, from, many int) ([][2]int, bool) {
	if many == 0 {
		return nil, true
	}
	if !isAny(size, n, from, many) {
		return nil, false
	}
	var out [][2]int
	for i := range many {
		place := size*n + from + i
		if place/4096 >= len(row) || b.pages[row[place/4096]] == nil {
			return nil, false
		}
		out = append(out, [2]int{row[place/4096], place % 4096})
	}
	return out, true
}

// touched counts one touch for each frame that these places lie in, one behind
// the other.
func (b *pair) touched(places [][2]int) {
	for i, p := range places {
		if i == 0 || p[1] == 0 {
			b.touches++
		}
	}
}

func (b *pair) read(row []int, size, n, from, many int) bool {
	b.Helper()
	got, ok := zspage.Read(b.r, row, size, n, from, many)
	places, want := b.places(row, size, n, from, many)
	b.touched(places)
	if ok != want || len(got) != len(places) {
		b.Fatalf("Read(%d, %d, %d, %d, %d): %d bytes, %t, not %d, %t", row, size, n, from, many, len(got), ok, len(places), want)
	}
	for i, p := range places {
		if got[i] != b.pages[p[0]][p[1]] {
			b.Fatalf("Read(%d, %d, %d, %d, %d) has another byte at %d", row, size, n, from, many, i)
		}
	}
	return ok
}

func (b *pair) write(row []int, size, n, from int, what []byte) bool {
	b.Helper()
	got := zspage.Write(b.r, row, size, n, from, what)
	places, want := b.places(row, size, n, from, len(what))
	b.touched(places)
	if got != want {
		b.Fatalf("Write(%d, %d, %d, %d, %d bytes): %t", row, size, n, from, len(what), got)
	}
	for i, p := range places {
		b.pages[p[0]][p[1]] = what[i]
	}
	return got
}

// fill writes a whole object.
func (b *pair) fill(row []int, size, n, seed int) bool {
	b.Helper()
	return b.write(row, size, n, 0, pattern(size, seed))
}

// tellsSame fails if any byte of any frame is another one, or the RAM was
// touched otherwise than it should be, or its frames were taken or given.
func (b *pair) tellsSame() {
	b.Helper()
	if got := b.r.Touches(); got != b.touches {
		b.Fatalf("Touches: %d, not %d", got, b.touches)
	}
	for n := range 16 {
		got, ok := b.r.Read(n, 0, 4096)
		if ok != (b.pages[n] != nil) {
			b.Fatalf("frame %d: %t", n, ok)
		}
		if !bytes.Equal(got, b.pages[n]) {
			b.Fatalf("frame %d has other bytes", n)
		}
	}
	b.touches = b.r.Touches()
}

// rows are rows of one to four frames of the RAM: side by side and not, rising
// and not.
var rows = [][]int{
	{0}, {5}, {15}, {0, 1}, {1, 0}, {7, 3}, {15, 0}, {0, 1, 2}, {9, 2, 14}, {12, 11, 10}, {0, 1, 2, 3}, {3, 2, 1, 0}, {15, 0, 8, 4},
}

// objects are how many objects of that size so many frames have room for.
func objects(size, many int) int {
	return min(4096*many/size, 256)
}

// pattern is bytes none of which is 0, in a row that is long in coming again.
func pattern(size, seed int) []byte {
	out := make([]byte, size)
	for i := range out {
		out[i] = byte(1 + (i+i/251+7*seed+seed/255)%255)
	}
	return out
}

// steps is a row of numbers from 0 on that is always the same one for a seed.
func steps(from int) func() int {
	seed := uint32(from)
	return func() int {
		seed = seed*1664525 + 1013904223
		return int(seed >> 8)
	}
}
