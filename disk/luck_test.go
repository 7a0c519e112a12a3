package disk_test

import (
	"bytes"
	"testing"

	"gunny/api"
)

// Promise 8.2, and what a disk has of luck.

func TestPeek(t *testing.T) {
	everyState(t, func(b *pair) {
		for range 2 {
			for n := range b.p.many {
				if got := b.d.Peek(n); !bytes.Equal(got, b.p.peek(n)) {
					b.Fatalf("Peek(%d): %x", n, got)
				}
			}
			for _, n := range outside(b.p.many) {
				if got := b.d.Peek(n); (n < 0 || n >= b.p.many) && len(got) != 0 {
					b.Errorf("Peek(%d): %x", n, got)
				}
			}
		}
		b.isAs()
	})
}

func TestPeekWhateverLuckSays(t *testing.T) {
	b := newPair(t, 2, append([]bool{false}, allOf(50, true)...)...)
	what := pattern(512, 4)
	b.write(1, what)
	for range 60 {
		if got := b.d.Peek(1); !bytes.Equal(got, what) {
			t.Fatalf("Peek(1): %x", got)
		}
		if got := b.d.Peek(0); !bytes.Equal(got, make([]byte, 512)) {
			t.Fatalf("Peek(0): %x", got)
		}
		if b.d.Asked() != 1 || b.d.Failed() != 0 || b.d.Left() != 50 {
			t.Fatalf("Asked %d, Failed %d, Left %d", b.d.Asked(), b.d.Failed(), b.d.Left())
		}
	}
	if err := b.read(1); err != api.ErrIO {
		t.Errorf("Read behind Peek: %v", err)
	}
	b.isAs()
}

func TestPeekIsNewMemory(t *testing.T) {
	b := newPair(t, 3)
	for range 2 {
		for n := range 3 {
			first, second := b.d.Peek(n), b.d.Peek(n)
			for i := range first {
				first[i] ^= 0xff
			}
			if !bytes.Equal(second, b.p.peek(n)) {
				t.Errorf("Peek(%d) twice: one memory", n)
			}
			b.tellsSame()
		}
		fillAll(b)
	}
	got := b.d.Peek(2)
	b.fill(2, 9)
	if !bytes.Equal(got, pattern(512, 31*2+1)) {
		t.Errorf("what was told has changed: %x", got)
	}
	b.isAs()
}

// Asked, Failed and Left at first and behind each call are held against numbers
// that are written out here.
func TestCountsStepByStep(t *testing.T) {
	b := newPair(t, 2, true, false, true, true)
	d := b.d
	full := make([]byte, 512)
	rows := []struct {
		name                string
		do                  func() api.Errno
		err                 api.Errno
		asked, failed, left int
	}{
		{"at first", func() api.Errno { return api.OK }, api.OK, 0, 0, 4},
		{"Read of none", func() api.Errno { _, err := d.Read(2); return err }, api.ErrRange, 0, 0, 4},
		{"Read below", func() api.Errno { _, err := d.Read(-1); return err }, api.ErrRange, 0, 0, 4},
		{"Write of none", func() api.Errno { return d.Write(2, full) }, api.ErrRange, 0, 0, 4},
		{"Write below", func() api.Errno { return d.Write(-1, nil) }, api.ErrRange, 0, 0, 4},
		{"Write of 511", func() api.Errno { return d.Write(0, full[:511]) }, api.ErrArg, 0, 0, 4},
		{"Write of 513", func() api.Errno { return d.Write(1, make([]byte, 513)) }, api.ErrArg, 0, 0, 4},
		{"Write of nil", func() api.Errno { return d.Write(1, nil) }, api.ErrArg, 0, 0, 4},
		{"Peek", func() api.Errno { d.Peek(0); d.Peek(1); d.Peek(2); return api.OK }, api.OK, 0, 0, 4},
		{"Read that fails", func() api.Errno { _, err := d.Read(0); return err }, api.ErrIO, 1, 1, 3},
		{"Write of 511 once more", func() api.Errno { return d.Write(0, full[:511]) }, api.ErrArg, 1, 1, 3},
		{"Write", func() api.Errno { return d.Write(1, full) }, api.OK, 2, 1, 2},
		{"Write that fails", func() api.Errno { return d.Write(0, full) }, api.ErrIO, 3, 2, 1},
		{"Peek once more", func() api.Errno { d.Peek(0); return api.OK }, api.OK, 3, 2, 1},
		{"another Write that fails", func() api.Errno { return d.Write(0, full) }, api.ErrIO, 4, 3, 0},
		{"Read behind the last choice", func() api.Errno { _, err := d.Read(1); return err }, api.OK, 5, 3, 0},
		{"Write behind it", func() api.Errno { return d.Write(0, full) }, api.OK, 6, 3, 0},
		{"Write of none behind it", func() api.Errno { return d.Write(2, full) }, api.ErrRange, 6, 3, 0},
		{"Write of 513 behind it", func() api.Errno { return d.Write(1, make([]byte, 513)) }, api.ErrArg, 6, 3, 0},
		{"Read behind it", func() api.Errno { _, err := d.Read(0); return err }, api.OK, 7, 3, 0},
		{"Many", func() api.Errno { d.Many(); return api.OK }, api.OK, 7, 3, 0},
	}
	for _, row := range rows {
		if err := row.do(); err != row.err {
			t.Errorf("%s: %v", row.name, err)
		}
		if d.Asked() != row.asked || d.Failed() != row.failed || d.Left() != row.left {
			t.Errorf("%s: Asked %d, Failed %d, Left %d", row.name, d.Asked(), d.Failed(), d.Left())
		}
	}
}

// A disk without sectors has luck that nothing asks.
func TestNoSectorsAtAll(t *testing.T) {
	b := newPair(t, 0, true, false)
	for _, n := range append(outside(0), 0) {
		if err := b.read(n); err != api.ErrRange {
			t.Errorf("Read(%d): %v", n, err)
		}
		if err := b.write(n, pattern(512, 1)); err != api.ErrRange {
			t.Errorf("Write(%d): %v", n, err)
		}
		b.peek(n)
	}
	if b.d.Many() != 0 || b.d.Asked() != 0 || b.d.Failed() != 0 || b.d.Left() != 2 {
		t.Errorf("Many %d, Asked %d, Failed %d, Left %d", b.d.Many(), b.d.Asked(), b.d.Failed(), b.d.Left())
	}
}

func TestManyChoices(t *testing.T) {
	for _, many := range []int{api.MaxChoices - 1, api.MaxChoices, api.MaxChoices + 1} {
		for _, choices := range [][]bool{mixed(many), allOf(many, true), allOf(many, false)} {
			b := newPair(t, 3, choices...)
			for at := range many + 5 {
				if at%2 == 0 {
					b.read(at % 3)
				} else {
					b.fill(at%3, at)
				}
			}
			b.isAs()
		}
	}
}

// Of luck a disk has the counts alone.
func TestNoFails(t *testing.T) {
	b := newPair(t, 1, true)
	if _, has := any(b.d).(interface{ Fails() bool }); has {
		t.Error("a disk has Fails")
	}
	if _, has := any(*b.d).(interface{ Fails() bool }); has {
		t.Error("what is behind a disk's pointer has Fails")
	}
}
