package disk_test

import (
	"bytes"
	"math"
	"slices"
	"testing"

	"gunny/api"
	"gunny/disk"
)

// Promise 8.1.

func TestExample(t *testing.T) {
	d, err := disk.New(1, true)
	if err != api.OK {
		t.Fatal(err)
	}
	what := pattern(512, 1)
	if err := d.Write(0, what); err != api.ErrIO {
		t.Fatalf("Write: %v", err)
	}
	if err := d.Write(0, what); err != api.OK {
		t.Fatalf("Write once more: %v", err)
	}
	if got, err := d.Read(0); !bytes.Equal(got, what) || err != api.OK {
		t.Fatalf("Read: %x, %v", got, err)
	}
}

func TestNewKeepsWithinBounds(t *testing.T) {
	for many := -1100; many <= 2100; many++ {
		newIsAs(t, many)
	}
	for _, many := range []int{
		math.MinInt, math.MinInt + 1, -1 << 62, -1 << 32, -1<<32 + 8, -1 << 23, 1 << 23, 1 << 31, 1 << 32, 1<<32 + 1,
		1<<32 + 1024, 1 << 55, 1<<55 + 1, 1 << 62, 1<<62 + 8, math.MaxInt - 1, math.MaxInt,
	} {
		newIsAs(t, many)
		newIsAs(t, many, true, false)
	}
}

func newIsAs(t *testing.T, many int, choices ...bool) {
	t.Helper()
	d, err := disk.New(many, choices...)
	if many < 0 || many > 1024 {
		if d != nil || err != api.ErrArg {
			t.Errorf("New(%d): not nil, %v", many, err)
		}
		return
	}
	if d == nil || err != api.OK || d.Many() != many {
		t.Fatalf("New(%d): %v, Many %d", many, err, d.Many())
	}
}

func TestEdgesOfNew(t *testing.T) {
	for many, want := range map[int]api.Errno{
		-1: api.ErrArg, 0: api.OK, 1: api.OK, 1024: api.OK, 1025: api.ErrArg,
	} {
		for _, choices := range [][]bool{nil, {}, {true}, {false}, allOf(4001, true)} {
			d, err := disk.New(many, choices...)
			if err != want || (d != nil) != (want == api.OK) {
				t.Errorf("New(%d, %d choices): %v", many, len(choices), err)
			}
		}
	}
}

func TestAtFirst(t *testing.T) {
	zero := make([]byte, 512)
	for _, many := range manies {
		for _, choices := range [][]bool{nil, {}, {false}, {true}, mixed(20), allOf(4000, true)} {
			b := newPair(t, many, choices...)
			if b.d.Asked() != 0 || b.d.Failed() != 0 || b.d.Left() != len(choices) {
				t.Errorf("of %d: Asked %d, Failed %d, Left %d", many, b.d.Asked(), b.d.Failed(), b.d.Left())
			}
			for n := range many {
				if got := b.d.Peek(n); !bytes.Equal(got, zero) {
					t.Fatalf("of %d, Peek(%d): %x", many, n, got)
				}
			}
			b.isAs()
		}
	}
}

func TestNeverWrittenIsZero(t *testing.T) {
	zero := make([]byte, 512)
	for _, many := range manies {
		b := newPair(t, many)
		for n := 1; n < many; n += 2 {
			b.fill(n, 2)
		}
		for n := 0; n < many; n += 2 {
			if got, err := b.d.Read(n); !bytes.Equal(got, zero) || err != api.OK {
				t.Fatalf("of %d, Read(%d): %x, %v", many, n, got, err)
			}
			if got := b.d.Peek(n); !bytes.Equal(got, zero) {
				t.Fatalf("of %d, Peek(%d): %x", many, n, got)
			}
		}
	}
}

func TestFirstAndLastSector(t *testing.T) {
	for _, many := range manies {
		b := newPair(t, many)
		for _, row := range []struct {
			n    int
			want api.Errno
		}{{-1, api.ErrRange}, {0, api.OK}, {many - 1, api.OK}, {many, api.ErrRange}} {
			want := row.want
			if many == 0 {
				want = api.ErrRange
			}
			if err := b.write(row.n, pattern(512, row.n+9)); err != want {
				t.Errorf("of %d, Write(%d): %v", many, row.n, err)
			}
			if err := b.read(row.n); err != want {
				t.Errorf("of %d, Read(%d): %v", many, row.n, err)
			}
			b.peek(row.n)
		}
		b.isAs()
	}
}

func TestEverySectorIsItsOwn(t *testing.T) {
	for _, many := range manies {
		b := newPair(t, many)
		for n := range many {
			what := slices.Repeat([]byte{byte(n), byte(n >> 8), 5, 6}, 128)
			if err := b.write(n, what); err != api.OK {
				t.Fatalf("of %d, Write(%d): %v", many, n, err)
			}
		}
		for n := range many {
			got, err := b.d.Read(n)
			if err != api.OK || len(got) != 512 || got[0] != byte(n) || got[509] != byte(n>>8) {
				t.Fatalf("of %d, Read(%d): %x, %v", many, n, got, err)
			}
		}
	}
}

func TestEveryByteIsWrittenAndRead(t *testing.T) {
	b := newPair(t, 2)
	for at := range 512 {
		for _, x := range []byte{1, 0x80, 0xff} {
			what := make([]byte, 512)
			what[at] = x
			b.write(1, what)
			if got, err := b.d.Read(1); !bytes.Equal(got, what) || err != api.OK {
				t.Fatalf("byte %d is %d: %x, %v", at, x, got, err)
			}
			b.p.asked++
		}
	}
	b.isAs()
}

func TestNoSuchSector(t *testing.T) {
	everyState(t, func(b *pair) {
		for _, n := range outside(b.p.many) {
			if n >= 0 && n < b.p.many {
				continue
			}
			if got, err := b.d.Read(n); len(got) != 0 || err != api.ErrRange {
				b.Errorf("Read(%d): %x, %v", n, got, err)
			}
			if err := b.d.Write(n, pattern(512, 3)); err != api.ErrRange {
				b.Errorf("Write(%d): %v", n, err)
			}
		}
		b.isAs()
	})
}

func TestWriteOfOtherLengths(t *testing.T) {
	everyState(t, func(b *pair) {
		for n := 0; n < b.p.many; n += max(1, b.p.many-1) {
			for _, size := range sizes {
				if err := b.d.Write(n, pattern(size, 3)); err != api.ErrArg {
					b.Errorf("Write(%d, %d bytes): %v", n, size, err)
				}
			}
			if err := b.d.Write(n, nil); err != api.ErrArg {
				b.Errorf("Write(%d, nil): %v", n, err)
			}
		}
		b.isAs()
	})
}

// Where there is no such sector that is told, whatever the bytes are and luck
// says; of a sector that is there the bytes are told ahead of what fails.
func TestErrorsInTheirOrder(t *testing.T) {
	rows := []struct {
		name  string
		n     int
		size  int
		fails bool
		want  api.Errno
	}{
		{"all of them", 3, 511, true, api.ErrRange},
		{"all of them, below", -1, 513, true, api.ErrRange},
		{"all of them, no bytes", 3, 0, true, api.ErrRange},
		{"no sector, and it would fail", 3, 512, true, api.ErrRange},
		{"no sector, other bytes", 3, 513, false, api.ErrRange},
		{"no sector", 3, 512, false, api.ErrRange},
		{"other bytes, and it would fail", 2, 511, true, api.ErrArg},
		{"more bytes, and it would fail", 0, 513, true, api.ErrArg},
		{"no bytes, and it would fail", 1, 0, true, api.ErrArg},
		{"other bytes", 2, 513, false, api.ErrArg},
		{"it fails", 2, 512, true, api.ErrIO},
		{"nothing is wrong", 2, 512, false, api.OK},
	}
	for _, row := range rows {
		b := newPair(t, 3, row.fails)
		if err := b.write(row.n, pattern(row.size, 1)); err != row.want {
			t.Errorf("%s: %v", row.name, err)
		}
		b.isAs()
	}
	b := newPair(t, 3, true)
	if err := b.read(3); err != api.ErrRange {
		t.Errorf("Read, no sector, and it would fail: %v", err)
	}
	if err := b.read(2); err != api.ErrIO {
		t.Errorf("Read, it fails: %v", err)
	}
	b.isAs()
}

// An access that fails is followed by one that doesn't, of each kind.
func TestFailsAndThenDoesNot(t *testing.T) {
	old, now := pattern(512, 5), pattern(512, 6)
	for _, n := range []int{0, 1, 7} {
		b := newPair(t, 8, false, true, false, true, false)
		b.write(n, old)
		if got, err := b.d.Read(n); len(got) != 0 || err != api.ErrIO {
			t.Errorf("Read(%d) that fails: %x, %v", n, got, err)
		}
		if got, err := b.d.Read(n); !bytes.Equal(got, old) || err != api.OK {
			t.Errorf("Read(%d), the next one: %x, %v", n, got, err)
		}
		if err := b.d.Write(n, now); err != api.ErrIO {
			t.Errorf("Write(%d) that fails: %v", n, err)
		}
		if got := b.d.Peek(n); !bytes.Equal(got, old) {
			t.Errorf("Peek(%d) behind it: %x", n, got)
		}
		if err := b.d.Write(n, now); err != api.OK {
			t.Errorf("Write(%d), the next one: %v", n, err)
		}
		if got, err := b.d.Read(n); !bytes.Equal(got, now) || err != api.OK {
			t.Errorf("Read(%d) at last: %x, %v", n, got, err)
		}
	}
}

func TestEveryRowOfChoices(t *testing.T) {
	everyRow(8, func(choices []bool) {
		b := newPair(t, 3, choices...)
		for at := range len(choices) + 4 {
			if at%2 == 0 {
				b.fill(at%3, at)
			} else {
				b.read((at + 1) % 3)
			}
			b.tellsSame()
		}
	})
}

// Bytes that were handed in are not kept, nor changed, and nothing behind their length is.
func TestWriteKeepsAndChangesNothingHandedIn(t *testing.T) {
	for _, fails := range []bool{false, true} {
		b := newPair(t, 4, false, fails)
		room := pattern(600, 2)
		was := slices.Clone(room)
		b.write(1, room[:512])
		b.write(2, room[40:552])
		b.d.Write(3, room[:511])
		if !bytes.Equal(room, was) {
			t.Errorf("fails %t: what was handed in has changed", fails)
		}
		clear(room)
		b.tellsSame()
		b.read(1)
		b.read(2)
		b.fill(1, 8)
		b.fill(2, 8)
		if !bytes.Equal(room, make([]byte, 600)) {
			t.Errorf("fails %t: what was handed in is kept", fails)
		}
		b.isAs()
	}
}

func TestReadIsNewMemory(t *testing.T) {
	b := newPair(t, 3)
	fillAll(b)
	for n := range 3 {
		first, _ := b.d.Read(n)
		second, _ := b.d.Read(n)
		b.p.asked += 2
		clear(first[:cap(first)])
		if !bytes.Equal(second, b.p.peek(n)) {
			t.Errorf("Read(%d) twice: one memory", n)
		}
		b.tellsSame()
	}
	b.isAs()
}

func TestReadStaysAsTold(t *testing.T) {
	b := newPair(t, 2)
	b.fill(0, 1)
	want := pattern(512, 1)
	got, _ := b.d.Read(0)
	b.p.asked++
	b.fill(0, 9)
	b.read(0)
	if !bytes.Equal(got, want) {
		t.Errorf("what was told has changed: %x", got)
	}
	b.isAs()
}

// What was read is handed in again, and changed then.
func TestReadIntoWrite(t *testing.T) {
	b := newPair(t, 2)
	b.fill(0, 1)
	got, _ := b.d.Read(0)
	b.p.asked++
	b.write(1, got)
	clear(got)
	b.isAs()
}

// Luck has the choices that a disk was made of, whatever becomes of the list.
func TestListOfChoicesIsNotKeptNorChanged(t *testing.T) {
	everyRow(6, func(choices []bool) {
		for asked := range len(choices) + 1 {
			list := slices.Clone(choices)
			b := newPair(t, 2, list...)
			for range asked {
				b.read(1)
			}
			if !slices.Equal(list, choices) {
				t.Fatalf("%t became %t", choices, list)
			}
			for at := range list {
				list[at] = !list[at]
			}
			b.isAs()
		}
	})
}

// Behind a list's length nothing is read, nor written.
func TestBehindTheListOfChoices(t *testing.T) {
	room := append([]bool{true, false, true}, allOf(20, true)...)
	was := slices.Clone(room)
	for many := range 4 {
		newPair(t, 2, room[:many]...).isAs()
	}
	if !slices.Equal(room, was) {
		t.Errorf("%t became %t", was, room)
	}
}

func TestNilDisk(t *testing.T) {
	var d *disk.Disk
	for range 2 {
		if d.Many() != 0 {
			t.Errorf("Many: %d", d.Many())
		}
		for _, n := range append(outside(8), 0, 1, 7, 1023) {
			if got, err := d.Read(n); len(got) != 0 || err != api.ErrRange {
				t.Errorf("Read(%d): %x, %v", n, got, err)
			}
			for _, size := range append(slices.Clone(sizes), 512) {
				if err := d.Write(n, pattern(size, 1)); err != api.ErrRange {
					t.Errorf("Write(%d, %d bytes): %v", n, size, err)
				}
			}
			if err := d.Write(n, nil); err != api.ErrRange {
				t.Errorf("Write(%d, nil): %v", n, err)
			}
			if got := d.Peek(n); len(got) != 0 {
				t.Errorf("Peek(%d): %x", n, got)
			}
		}
		if d.Asked() != 0 || d.Failed() != 0 || d.Left() != 0 {
			t.Errorf("Asked %d, Failed %d, Left %d", d.Asked(), d.Failed(), d.Left())
		}
	}
}
