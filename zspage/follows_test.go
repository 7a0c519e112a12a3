package zspage_test

import (
	"bytes"
	"testing"

	"gunny/zspage"
)

// Promise 16.3

// All objects of a row are written, from the first to the last, and from the
// last to the first, and each is read then as it was written.
func TestAllObjectsOfARowAreRead(t *testing.T) {
	for _, size := range allSizes() {
		b := newPair(t)
		for _, row := range [][]int{{15, 0, 8, 4}, {3, 2, 1, 0}, {5}} {
			many := objects(size, len(row))
			for n := range many {
				b.fill(row, size, n, 3*n)
			}
			allStand(b, row, size, 3)
			for n := many - 1; n >= 0; n-- {
				b.fill(row, size, n, 5*n)
			}
			allStand(b, row, size, 5)
			b.tellsSame()
		}
	}
}

// allStand fails if an object of the row has other bytes than the pattern of so
// many times its number.
func allStand(b *pair, row []int, size, times int) {
	b.Helper()
	for n := range objects(size, len(row)) {
		got, ok := zspage.Read(b.r, row, size, n, 0, size)
		if !bytes.Equal(got, pattern(size, times*n)) || !ok {
			b.Fatalf("object %d of %d bytes in %d: %d bytes, %t, or other ones", n, size, row, len(got), ok)
		}
	}
	b.touches = b.r.Touches()
}

// Each byte of an object that lies across two frames is written alone.
func TestEveryByteIsWrittenAlone(t *testing.T) {
	b := newPair(t)
	row := []int{9, 2, 14}
	for from := range 3008 {
		b.write(row, 3008, 1, from, []byte{0})
		got, _ := zspage.Read(b.r, row, 3008, 1, from, 1)
		b.touches++
		if !bytes.Equal(got, []byte{0}) {
			t.Fatalf("byte %d: %d", from, got)
		}
		if from%32 == 0 || from > 1080 && from < 1096 {
			b.tellsSame()
		}
	}
	b.tellsSame()
}

// Each two and each seven bytes of an object that lies across two frames.
func TestEveryFewBytes(t *testing.T) {
	b := newPair(t)
	row := []int{13, 0}
	for _, many := range []int{2, 7} {
		for from := 0; from+many <= 192; from++ {
			b.write(row, 192, 21, from, pattern(many, from))
			b.read(row, 192, 21, 0, 192)
			b.read(row, 192, 20, 0, 192)
			b.read(row, 192, 22, 0, 192)
			b.tellsSame()
		}
	}
}

func TestWritesOverWrites(t *testing.T) {
	b := newPair(t)
	row := []int{1, 0}
	for _, p := range []part{{0, 3008}, {1000, 200}, {1050, 100}, {1087, 2}, {1088, 1}, {0, 1089}, {900, 2108}, {0, 3008}} {
		b.write(row, 3008, 1, p.from, pattern(p.many, p.from+p.many))
		b.read(row, 3008, 1, 0, 3008)
		b.tellsSame()
	}
}

// The same frames in another order are another row.
func TestRowsOfTheSameFrames(t *testing.T) {
	b := newPair(t)
	b.fill([]int{4, 5}, 3008, 1, 1)
	b.read([]int{5, 4}, 3008, 1, 0, 3008)
	b.fill([]int{5, 4}, 3008, 0, 2)
	b.read([]int{4, 5}, 3008, 0, 0, 3008)
	b.read([]int{4, 5}, 3008, 1, 0, 3008)
	b.tellsSame()
}

func TestReadingChangesNoByte(t *testing.T) {
	b := newPair(t)
	for range 2 {
		for _, row := range rows {
			for n := range 4 {
				b.read(row, 3008, n, 0, 3008)
				b.read(row, 1408, n, 5, 1000)
			}
		}
		b.tellsSame()
	}
}

// TestManySteps does a long row of steps, always the same one.
func TestManySteps(t *testing.T) {
	for seed := range 4 {
		b := newPair(t)
		next := steps(seed)
		for at := range 6000 {
			oneStep(b, next)
			if at%100 == 0 {
				b.tellsSame()
			}
		}
		b.tellsSame()
	}
}

// oneStep reads or writes a part of an object, mostly of one that may be, in a
// row in which now and then a frame is Free, or no frame.
func oneStep(b *pair, next func() int) {
	if next()%50 == 0 {
		turn(b, next()%16)
	}
	row := make([]int, 1+next()%4)
	for at := range row {
		row[at] = (next()%97 + at) % 16
	}
	if next()%20 == 0 {
		row[0] = next()%40 - 12
	}
	size := 64 * (1 + next()%64)
	if next()%30 == 0 {
		size += next()%200 - 100
	}
	n := next()%(objects(max(size, 64), len(row))+1) - next()%40/39
	from := next() % max(size, 1)
	many := 1 + next()%max(size-from, 1)
	if next()%20 == 0 {
		from, many = from-next()%100, many+next()%100-50
	}
	if next()%2 == 0 {
		b.read(row, size, n, from, many)
	} else {
		b.write(row, size, n, from, pattern(max(many, 0), next()%1000))
	}
}

// turn gives a frame back, or, if one is Free, takes that.
func turn(b *pair, n int) {
	b.Helper()
	if len(b.pages) < 16 {
		got, ok := b.r.Take(3)
		if !ok || b.pages[got] != nil {
			b.Fatalf("Take: %d, %t", got, ok)
		}
		b.pages[got] = make([]byte, 4096)
		return
	}
	b.r.Give(n)
	delete(b.pages, n)
}
