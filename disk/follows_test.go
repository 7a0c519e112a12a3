package disk_test

import (
	"bytes"
	"testing"

	"gunny/api"
)

// Promise 8.3.

func TestWhatWasWrittenIsRead(t *testing.T) {
	b := newPair(t, 9)
	for turn := range 5 {
		for n := range 9 {
			what := pattern(512, 100*turn+n)
			b.write(n, what)
			for range 3 {
				if got, err := b.d.Read(n); !bytes.Equal(got, what) || err != api.OK {
					t.Fatalf("turn %d, Read(%d): %x, %v", turn, n, got, err)
				}
				b.p.asked++
			}
		}
		b.tellsSame()
	}
	b.isAs()
}

func TestWrittenWithZeroAgain(t *testing.T) {
	b := newPair(t, 3)
	fillAll(b)
	b.write(1, make([]byte, 512))
	if got, err := b.d.Read(1); !bytes.Equal(got, make([]byte, 512)) || err != api.OK {
		t.Errorf("Read(1): %x, %v", got, err)
	}
	b.p.asked++
	b.isAs()
}

func TestWriteChangesOneSector(t *testing.T) {
	for _, many := range []int{1, 2, 8, 64} {
		b := newPair(t, many)
		fillAll(b)
		for n := range many {
			b.fill(n, 50)
			b.tellsSame()
		}
	}
	b := newPair(t, 1024)
	fillAll(b)
	for _, n := range []int{0, 1, 511, 512, 1022, 1023} {
		b.fill(n, 50)
		b.tellsSame()
	}
}

func TestWhatFailedChangesNoSector(t *testing.T) {
	for _, many := range []int{1, 2, 8, 1024} {
		b := newPair(t, many, append(allOf(many, false), allOf(6*many, true)...)...)
		fillAll(b)
		for turn := range 3 {
			for n := range many {
				if err := b.fill(n, 70+turn); err != api.ErrIO {
					t.Fatalf("of %d, Write(%d): %v", many, n, err)
				}
				if err := b.read(n); err != api.ErrIO {
					t.Fatalf("of %d, Read(%d): %v", many, n, err)
				}
			}
			b.tellsSame()
		}
		for n := range many {
			if got, err := b.d.Read(n); !bytes.Equal(got, pattern(512, 31*n+1)) || err != api.OK {
				t.Fatalf("of %d, Read(%d) at last: %x, %v", many, n, got, err)
			}
		}
	}
}

func TestWhatIsRefusedChangesNoSector(t *testing.T) {
	everyState(t, func(b *pair) {
		for _, n := range append(outside(b.p.many), 0, b.p.many-1) {
			for _, size := range sizes {
				if err := b.write(n, pattern(size, 3)); err == api.OK || err == api.ErrIO {
					b.Errorf("Write(%d, %d bytes): %v", n, size, err)
				}
			}
		}
		b.isAs()
	})
}

// As many accesses are told as ErrIO as choices that were asked for say.
func TestAsManyFailAsChoicesSay(t *testing.T) {
	everyRow(7, func(choices []bool) {
		for accesses := range len(choices) + 3 {
			b := newPair(t, 2, choices...)
			failed := 0
			for at := range accesses {
				err := b.read(at % 2)
				if at%3 == 0 {
					b.read(2)
					b.write(0, nil)
				}
				if err == api.ErrIO {
					failed++
				}
			}
			want := says(choices[:min(accesses, len(choices))])
			if failed != want || b.d.Failed() != want || b.d.Asked() != accesses {
				t.Fatalf("%t, %d accesses: %d are ErrIO, Failed %d, Asked %d",
					choices, accesses, failed, b.d.Failed(), b.d.Asked())
			}
		}
	})
}

func TestDisksAreApart(t *testing.T) {
	list := []bool{true, false, true, false, false}
	a, b, c := newPair(t, 4, list...), newPair(t, 4, list...), newPair(t, 4, list[1:]...)
	fillAll(a)
	a.fill(0, 7)
	b.fill(1, 3)
	c.fill(2, 2)
	b.read(0)
	c.read(3)
	b.fill(1, 5)
	a.isAs()
	b.isAs()
	c.isAs()
}

func TestAskingChangesNothing(t *testing.T) {
	everyState(t, func(b *pair) {
		for range 3 {
			b.tellsSame()
		}
		b.isAs()
	})
}

// TestEveryShortRow does every row of a few steps beside the plain disk.
func TestEveryShortRow(t *testing.T) {
	do := []func(b *pair){
		func(b *pair) { b.fill(0, 1) },
		func(b *pair) { b.fill(1, 2) },
		func(b *pair) { b.fill(0, 3) },
		func(b *pair) { b.fill(2, 4) },
		func(b *pair) { b.write(1, pattern(511, 5)) },
		func(b *pair) { b.read(0) },
		func(b *pair) { b.read(1) },
		func(b *pair) { b.read(-1) },
		func(b *pair) { b.peek(0) },
	}
	choices := []bool{false, true, true, false, true}
	for from := range choices {
		var row []int
		var follow func()
		follow = func() {
			b := newPair(t, 2, choices[from:]...)
			for _, step := range row {
				do[step](b)
			}
			b.isAs()
			if len(row) == 4 {
				return
			}
			for step := range do {
				row = append(row, step)
				follow()
				row = row[:len(row)-1]
			}
		}
		follow()
	}
}

// TestManySteps does a long row of steps, always the same one, beside the plain disk.
func TestManySteps(t *testing.T) {
	for _, many := range manies {
		b := newPair(t, many, mixed(3000)...)
		next := steps(many)
		for at := range 6000 {
			oneStep(b, next)
			if at%200 == 0 {
				b.tellsSame()
			}
		}
		b.isAs()
	}
}

func oneStep(b *pair, next func() int) {
	n := next()%(b.p.many+2) - 1
	switch next() % 8 {
	case 0, 1, 2:
		b.write(n, pattern(512, next()%1000))
	case 3:
		b.write(n, pattern(508+next()%8, next()%1000))
	case 4, 5, 6:
		b.read(n)
	default:
		b.peek(n)
	}
	b.tellsLuck()
}
