package same_test

import (
	"bytes"
	"testing"

	"gunny/same"
)

// Promise 10.2.

func TestRunsOfOneWord(t *testing.T) {
	for _, w := range someWords {
		if got := same.Runs(allOf(w)); got != 1 {
			t.Errorf("%#x: %d", w, got)
		}
	}
}

// Two stretches, wherever they part: behind the first, in the middle, ahead of
// the last word, and at all other places.
func TestRunsOfTwoStretches(t *testing.T) {
	for part := 1; part < 512; part++ {
		for _, words := range [][2]uint64{{0, 1}, {1, 0}, {mixedWord, mixedWord + 1<<56}, {greatest, greatest - 1}, {0, greatest}} {
			page := pageOf(func(i int) uint64 {
				if i < part {
					return words[0]
				}
				return words[1]
			})
			if got := same.Runs(page); got != 2 {
				t.Fatalf("%#x parts behind word %d: %d", words, part-1, got)
			}
		}
	}
}

// A word that is another one is a stretch of its own: one more at the edges, two
// more between.
func TestRunsWhereOneWordIsAnother(t *testing.T) {
	for at := range 512 {
		want := 3
		if at == 0 || at == 511 {
			want = 2
		}
		for _, w := range []uint64{0, 1, mixedWord, greatest} {
			if got := same.Runs(oneOther(w, ^w, at)); got != want {
				t.Fatalf("%#x, but for word %d: %d, not %d", w, at, got, want)
			}
		}
	}
}

// A byte that is another one, at each place in a word, makes its word another one.
func TestRunsWhereOneByteIsAnother(t *testing.T) {
	page := allOf(mixedWord)
	for at := range page {
		want := 3
		if at < 8 || at >= 4088 {
			want = 2
		}
		page[at] ^= 16
		if got := same.Runs(page); got != want {
			t.Fatalf("byte %d: %d, not %d", at, got, want)
		}
		page[at] ^= 16
	}
}

// Stretches that come again are counted again.
func TestRunsOfStretchesThatComeAgain(t *testing.T) {
	rows := []struct {
		name string
		long int
		of   uint64
		want int
	}{
		{"turns of two words", 1, 2, 512},
		{"turns of three words", 1, 3, 512},
		{"stretches of two", 2, 2, 256},
		{"stretches of three", 3, 2, 171},
		{"halves", 256, 2, 2},
		{"thirds, the first one comes again", 171, 2, 3},
		{"quarters that take turns", 128, 2, 4},
		{"eighths of three words", 64, 3, 8},
		{"511, and one", 511, 2, 2},
		{"all", 512, 2, 1},
	}
	for _, row := range rows {
		for _, base := range []uint64{0, 7, mixedWord, greatest - 1} {
			page := pageOf(func(i int) uint64 { return base + uint64(i/row.long)%row.of })
			if got := same.Runs(page); got != row.want {
				t.Errorf("%s, from %#x on: %d, not %d", row.name, base, got, row.want)
			}
		}
	}
}

func TestRunsOfWordsThatAllDiffer(t *testing.T) {
	rows := []func(i int) uint64{
		func(i int) uint64 { return uint64(i) },
		func(i int) uint64 { return uint64(511 - i) },
		func(i int) uint64 { return greatest - uint64(i) },
		func(i int) uint64 { return uint64(i) << 32 },
		func(i int) uint64 { return uint64(i) << 55 },
		func(i int) uint64 { return uint64(i) * 0x9e3779b97f4a7c15 },
	}
	for at, word := range rows {
		if got := same.Runs(pageOf(word)); got != 512 {
			t.Errorf("row %d: %d", at, got)
		}
	}
}

// Every number of stretches there may be, from 1 to 512, at both ends of a page.
func TestRunsOfEveryNumber(t *testing.T) {
	for want := 1; want <= 512; want++ {
		ahead := pageOf(func(i int) uint64 { return uint64(min(i, want-1)) })
		if got := same.Runs(ahead); got != want {
			t.Fatalf("stretches ahead: %d, not %d", got, want)
		}
		behind := pageOf(func(i int) uint64 { return uint64(max(i, 512-want)) })
		if got := same.Runs(behind); got != want {
			t.Fatalf("stretches behind: %d, not %d", got, want)
		}
	}
}

// A page whose bytes are shifted by one place against its words: those that turn
// round at its end are one stretch still; a byte from outside is seen in one word.
func TestRunsOfShiftedBytes(t *testing.T) {
	page := allOf(mixedWord)
	if got := same.Runs(append(bytes.Clone(page[1:]), page[0])); got != 1 {
		t.Errorf("turned: %d", got)
	}
	if got := same.Runs(append([]byte{0}, page[:4095]...)); got != 2 {
		t.Errorf("a byte ahead: %d", got)
	}
	if got := same.Runs(append(bytes.Clone(page[1:]), 0)); got != 2 {
		t.Errorf("a byte behind: %d", got)
	}
	// The lowest byte of each word is the highest one of the word ahead then: 255 words of 0, 256 of 2^56, one of 0.
	halves := pageOf(func(i int) uint64 { return uint64(i / 256) })
	if got := same.Runs(append(bytes.Clone(halves[1:]), 0)); got != 3 {
		t.Errorf("halves: %d", got)
	}
}

func TestRunsOfOtherLengths(t *testing.T) {
	if got := same.Runs(nil); got != 0 {
		t.Errorf("nil: %d", got)
	}
	if got := same.Runs([]byte{}); got != 0 {
		t.Errorf("no bytes: %d", got)
	}
	for _, many := range lengths {
		for _, b := range []byte{0, 1, 255} {
			if got := same.Runs(repeated(many, b)); got != 0 {
				t.Errorf("%d bytes of %d: %d", many, b, got)
			}
		}
		mixed := make([]byte, many)
		for i := range mixed {
			mixed[i] = byte(i)
		}
		if got := same.Runs(mixed); got != 0 {
			t.Errorf("%d bytes: %d", many, got)
		}
	}
}

// Bytes behind a list's length, which would make it a page, or more stretches,
// are neither read nor written.
func TestRunsKeepsToTheLength(t *testing.T) {
	room := pageOf(func(i int) uint64 { return uint64(i) })
	for i := range 4096 {
		room = append(room, byte(i/3))
	}
	was := bytes.Clone(room)
	for _, many := range []int{0, 1, 8, 4088, 4095, 4097, 8191} {
		if got := same.Runs(room[:many]); got != 0 {
			t.Errorf("%d bytes: %d", many, got)
		}
	}
	if got := same.Runs(room[:4096]); got != 512 {
		t.Errorf("a page with bytes behind: %d", got)
	}
	one := append(allOf(3), room...)[:4096]
	if got := same.Runs(one); got != 1 {
		t.Errorf("a page of one word with bytes behind: %d", got)
	}
	if !bytes.Equal(room, was) {
		t.Error("bytes have changed")
	}
}

func TestRunsChangesNothingHandedIn(t *testing.T) {
	page := pageOf(func(i int) uint64 { return uint64(i / 5) })
	was := bytes.Clone(page)
	for range 2 {
		if got := same.Runs(page); got != 103 {
			t.Errorf("%d", got)
		}
		same.Runs(page[:4095])
	}
	if !bytes.Equal(page, was) {
		t.Error("bytes have changed")
	}
}
