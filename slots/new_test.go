package slots_test

import (
	"bytes"
	"math"
	"slices"
	"testing"

	"gunny/api"
	"gunny/slots"
)

// Promise 9.1.

func TestNewKeepsWithinBounds(t *testing.T) {
	for many := -300; many <= 1200; many++ {
		newIsAs(t, many)
	}
	for _, many := range []int{
		math.MinInt, math.MinInt + 1, -1 << 62, -1<<62 + 1, -1 << 61, -1<<61 + 1, -1<<61 + 128, -1 << 32, -1<<32 + 1,
		-1<<29 + 1, 1 << 29, 1<<29 + 1, 1<<29 + 128, 1 << 31, 1 << 32, 1<<32 + 1, 1<<32 + 128, 1 << 61, 1<<61 + 1,
		1<<61 + 128, 1 << 62, 1<<62 + 8, math.MaxInt - 1, math.MaxInt,
	} {
		newIsAs(t, many)
		newIsAs(t, many, true, false)
	}
}

func newIsAs(t *testing.T, many int, choices ...bool) {
	t.Helper()
	s, err := slots.New(many, choices...)
	if many < 0 || many > 128 {
		if s != nil || err != api.ErrArg {
			t.Errorf("New(%d): not nil, %v", many, err)
		}
		return
	}
	if s == nil || err != api.OK || s.Slots() != many || s.Many() != 8*many {
		t.Fatalf("New(%d): %v", many, err)
	}
}

func TestEdgesOfNew(t *testing.T) {
	for _, row := range []struct {
		many, sectors int
		want          api.Errno
	}{{-1, 0, api.ErrArg}, {0, 0, api.OK}, {1, 8, api.OK}, {128, 1024, api.OK}, {129, 0, api.ErrArg}} {
		for _, choices := range [][]bool{nil, {}, {true}, {false}, allOf(4001, true)} {
			s, err := slots.New(row.many, choices...)
			if err != row.want || (s != nil) != (row.want == api.OK) {
				t.Errorf("New(%d, %d choices): %v", row.many, len(choices), err)
			}
			if s != nil && (s.Slots() != row.many || s.Many() != row.sectors || s.Used() != 0) {
				t.Errorf("New(%d): Slots %d, Many %d, Used %d", row.many, s.Slots(), s.Many(), s.Used())
			}
		}
	}
}

func TestAtFirst(t *testing.T) {
	for _, many := range manies {
		for _, choices := range [][]bool{nil, {}, {false}, {true}, mixed(20, 3), allOf(50, true)} {
			b := newPair(t, many, choices...)
			if b.s.Asked() != 0 || b.s.Failed() != 0 || b.s.Left() != len(choices) {
				t.Errorf("of %d: Asked %d, Failed %d, Left %d", many, b.s.Asked(), b.s.Failed(), b.s.Left())
			}
			for n := range many {
				if b.s.In(n) {
					t.Errorf("of %d: In(%d)", many, n)
				}
				if got, err := b.s.Page(n); len(got) != 0 || err != api.ErrNone {
					t.Errorf("of %d, Page(%d): %d bytes, %v", many, n, len(got), err)
				}
				if got, ok := b.s.Look(n); len(got) != 0 || ok {
					t.Errorf("of %d, Look(%d): %d bytes, %t", many, n, len(got), ok)
				}
			}
			for n := range 8 * many {
				if !bytes.Equal(b.s.Peek(n), make([]byte, 512)) {
					t.Fatalf("of %d: sector %d isn't of 0", many, n)
				}
			}
			b.isAs()
		}
	}
}

// Slots, Used and In as slots are taken one by one, and given back.
func TestSlotsUsedIn(t *testing.T) {
	for _, many := range manies {
		b := newPair(t, many)
		for n := range many {
			if b.s.In(n) || b.s.Used() != n {
				t.Fatalf("of %d, ahead of Put: In(%d) %t, Used %d", many, n, b.s.In(n), b.s.Used())
			}
			b.fill(n)
			if !b.s.In(n) || b.s.Used() != n+1 || b.s.Slots() != many {
				t.Fatalf("of %d, behind Put: In(%d) %t, Used %d", many, n, b.s.In(n), b.s.Used())
			}
		}
		for n := range many {
			b.drop(n)
			if b.s.In(n) || b.s.Used() != many-n-1 || b.s.Slots() != many {
				t.Fatalf("of %d, behind Drop: In(%d) %t, Used %d", many, n, b.s.In(n), b.s.Used())
			}
		}
		b.tellsSame()
	}
}

func TestNoSuchSlotIsIn(t *testing.T) {
	everyState(t, func(b *pair) {
		for _, n := range outside(b.p.many) {
			if got := b.s.In(n); got != b.p.in(n) {
				b.Errorf("In(%d): %t", n, got)
			}
		}
		b.tellsSame()
	})
}

func TestAskingChangesNothing(t *testing.T) {
	everyState(t, func(b *pair) {
		b.tellsSame()
		b.isAs()
	})
}

// What slots have of the disk: its sectors are those of the slots, and its luck
// is asked by both.
func TestAllThatTheDiskHas(t *testing.T) {
	b := newPair(t, 3, append(allOf(16, false), false, true, true)...)
	b.fill(1)
	b.fill(2)
	for at := range 8 {
		if got := b.s.Peek(8 + at); !bytes.Equal(got, pattern(4096, 2)[512*at:512*at+512]) {
			t.Errorf("Peek(%d) has other bytes", 8+at)
		}
	}
	if got, err := b.s.Read(15); err != api.OK || !bytes.Equal(got, pattern(4096, 2)[3584:]) {
		t.Errorf("Read(15): %v", err)
	}
	if _, err := b.s.Read(15); err != api.ErrIO {
		t.Errorf("Read(15) that fails: %v", err)
	}
	if err := b.s.Write(23, pattern(512, 3)); err != api.ErrIO {
		t.Errorf("Write(23) that fails: %v", err)
	}
	if err := b.s.Write(23, pattern(512, 3)); err != api.OK {
		t.Errorf("Write(23): %v", err)
	}
	if err := b.s.Write(23, pattern(511, 3)); err != api.ErrArg {
		t.Errorf("Write(23) of 511 bytes: %v", err)
	}
	if err := b.s.Write(24, pattern(512, 3)); err != api.ErrRange {
		t.Errorf("Write(24): %v", err)
	}
	if _, err := b.s.Read(-1); err != api.ErrRange {
		t.Errorf("Read(-1): %v", err)
	}
	b.p.asked += 4
	b.p.wrote[23] = pattern(512, 3)
	b.isAs()
}

// A sector of a slot in use that is written by the disk's own call is what the
// slot tells, since its sectors are read.
func TestPageIsWhatItsSectorsHave(t *testing.T) {
	b := newPair(t, 2)
	b.fill(1)
	b.fill(2)
	b.s.Write(11, pattern(512, 9))
	want := pattern(4096, 2)
	copy(want[3*512:], pattern(512, 9))
	if got, err := b.s.Page(1); err != api.OK || !bytes.Equal(got, want) {
		t.Errorf("Page(1): %v", err)
	}
	if got, ok := b.s.Look(1); !ok || !bytes.Equal(got, want) {
		t.Errorf("Look(1): %t", ok)
	}
	if b.s.Used() != 2 || b.s.Asked() != 25 {
		t.Errorf("Used %d, Asked %d", b.s.Used(), b.s.Asked())
	}
}

// Luck has the choices that slots were made of, whatever becomes of the list.
func TestListOfChoicesIsNotKeptNorChanged(t *testing.T) {
	for puts := range 4 {
		list := mixed(40, 9)
		was := slices.Clone(list)
		b := newPair(t, 2, list...)
		for at := range puts {
			b.fill(at)
			b.page(0)
		}
		if !slices.Equal(list, was) {
			t.Fatalf("%t became %t", was, list)
		}
		for at := range list {
			list[at] = !list[at]
		}
		b.isAs()
	}
}

// Behind a list's length nothing is read, nor written.
func TestBehindTheListOfChoices(t *testing.T) {
	room := append([]bool{true, false, true}, allOf(20, true)...)
	was := slices.Clone(room)
	for many := range 4 {
		newPair(t, 2, room[:many]...).isAs()
	}
	if !slices.Equal(room, was) {
		t.Errorf("%t became %t", was, room)
	}
}

func TestNilSlots(t *testing.T) {
	var s *slots.Slots
	for range 2 {
		if s.Slots() != 0 || s.Used() != 0 {
			t.Errorf("Slots %d, Used %d", s.Slots(), s.Used())
		}
		for _, n := range append(outside(8), 0, 1, 7, 127) {
			if s.In(n) {
				t.Errorf("In(%d)", n)
			}
			if got, err := s.Page(n); len(got) != 0 || err != api.ErrNone {
				t.Errorf("Page(%d): %d bytes, %v", n, len(got), err)
			}
			if s.Drop(n) {
				t.Errorf("Drop(%d)", n)
			}
			if got, ok := s.Look(n); len(got) != 0 || ok {
				t.Errorf("Look(%d): %d bytes, %t", n, len(got), ok)
			}
		}
		if n, err := s.Put(pattern(4096, 1)); n != 0 || err != api.ErrNoMem {
			t.Errorf("Put of a page: %d, %v", n, err)
		}
		for _, size := range sizes {
			if n, err := s.Put(pattern(size, 1)); n != 0 || err != api.ErrArg {
				t.Errorf("Put of %d bytes: %d, %v", size, n, err)
			}
		}
		if n, err := s.Put(nil); n != 0 || err != api.ErrArg {
			t.Errorf("Put of nil: %d, %v", n, err)
		}
	}
}
