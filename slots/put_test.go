package slots_test

import (
	"bytes"
	"slices"
	"testing"

	"gunny/api"
	"gunny/slots"
)

// Promise 9.2.

func TestExample(t *testing.T) {
	s, err := slots.New(2)
	if err != api.OK {
		t.Fatal(err)
	}
	for _, want := range []struct {
		n   int
		err api.Errno
	}{{0, api.OK}, {1, api.OK}, {0, api.ErrNoMem}} {
		if n, err := s.Put(make([]byte, 4096)); n != want.n || err != want.err {
			t.Errorf("Put: %d, %v, not %d, %v", n, err, want.n, want.err)
		}
	}
}

func TestPutOfOtherLengths(t *testing.T) {
	everyState(t, func(b *pair) {
		for _, size := range sizes {
			if n, err := b.s.Put(pattern(size, 3)); n != 0 || err != api.ErrArg {
				b.Errorf("Put of %d bytes: %d, %v", size, n, err)
			}
		}
		if n, err := b.s.Put(nil); n != 0 || err != api.ErrArg {
			b.Errorf("Put of nil: %d, %v", n, err)
		}
		if n, err := b.s.Put(make([]byte, 4095, 8192)); n != 0 || err != api.ErrArg {
			b.Errorf("Put of 4095 bytes with more behind: %d, %v", n, err)
		}
		b.tellsSame()
		b.isAs()
	})
}

func TestPutTakesOneByOne(t *testing.T) {
	for _, many := range manies {
		b := newPair(t, many)
		for want := range many {
			if n, err := b.fill(want); n != want || err != api.OK {
				t.Fatalf("of %d, Put: %d, %v, not %d", many, n, err, want)
			}
		}
		for range 3 {
			if n, err := b.fill(1); n != 0 || err != api.ErrNoMem {
				t.Errorf("of %d, all in use: %d, %v", many, n, err)
			}
		}
		b.isAs()
	}
}

// Of every set of slots in use the least one that isn't is taken.
func TestPutTakesTheLeast(t *testing.T) {
	const many = 6
	for which := range 1 << many {
		b := newPair(t, many)
		takeAll(b)
		want := many
		for n := many - 1; n >= 0; n-- {
			if which>>n&1 == 0 {
				b.drop(n)
				want = n
			}
		}
		n, err := b.fill(77)
		if want == many && (n != 0 || err != api.ErrNoMem) || want < many && (n != want || err != api.OK) {
			t.Errorf("in use %06b: %d, %v", which, n, err)
		}
		b.tellsSame()
	}
	for _, gap := range []int{0, 1, 63, 64, 65, 126, 127} {
		b := newPair(t, 128)
		takeAll(b)
		b.drop(127)
		b.drop(gap)
		if n, err := b.fill(77); n != gap || err != api.OK {
			t.Errorf("given back %d: %d, %v", gap, n, err)
		}
		b.tellsSame()
	}
}

// The eight sectors of the slot, and no other ones, have the page's bytes then.
func TestPutWritesItsSectors(t *testing.T) {
	b := newPair(t, 4)
	takeAll(b)
	for _, n := range []int{0, 3, 1, 2} {
		b.drop(n)
		what := pattern(4096, 500+n)
		b.put(what)
		for at := range 8 {
			if got := b.s.Peek(8*n + at); !bytes.Equal(got, what[512*at:512*at+512]) {
				t.Errorf("slot %d, sector %d has other bytes", n, at)
			}
		}
		b.tellsSame()
	}
}

func TestEveryByteIsPutAndTold(t *testing.T) {
	b := newPair(t, 2)
	b.fill(1)
	for at := range 4096 {
		what := make([]byte, 4096)
		what[at] = byte(1 + at%255)
		n, _ := b.put(what)
		if got, err := b.s.Page(n); n != 1 || err != api.OK || !bytes.Equal(got, what) {
			t.Fatalf("byte %d: slot %d, %v", at, n, err)
		}
		b.p.asked += 8
		b.drop(1)
	}
	b.isAs()
}

// Put fails at each of its sectors: those ahead are written, luck isn't asked
// any more, and the slot isn't in use, so that the next Put takes it.
func TestPutWhereASectorFails(t *testing.T) {
	for _, ahead := range []int{0, 1, 2} {
		for at := range 8 {
			b := newPair(t, 3, onlyAt(8*ahead+at)...)
			for n := range ahead {
				b.fill(n)
			}
			what := pattern(4096, 99)
			if n, err := b.s.Put(what); n != 0 || err != api.ErrIO {
				t.Fatalf("sector %d of slot %d fails: %d, %v", at, ahead, n, err)
			}
			b.p.put(what)
			if b.s.Asked() != 8*ahead+at+1 || b.s.Failed() != 1 || b.s.Left() != 0 {
				t.Errorf("sector %d: Asked %d, Failed %d, Left %d", at, b.s.Asked(), b.s.Failed(), b.s.Left())
			}
			if b.s.In(ahead) || b.s.Used() != ahead {
				t.Errorf("sector %d: In(%d) %t, Used %d", at, ahead, b.s.In(ahead), b.s.Used())
			}
			partsStand(b, ahead, at, what)
			b.tellsSame()
			if n, err := b.fill(98); n != ahead || err != api.OK {
				t.Errorf("sector %d, the next Put: %d, %v", at, n, err)
			}
			b.isAs()
		}
	}
}

// partsStand fails if of slot n, of which nothing was written, not just so many
// sectors have what was put.
func partsStand(b *pair, n, many int, what []byte) {
	b.Helper()
	for at := range 8 {
		want := make([]byte, 512)
		if at < many {
			want = what[512*at : 512*at+512]
		}
		if !bytes.Equal(b.s.Peek(8*n+at), want) {
			b.Errorf("sector %d of slot %d has other bytes", at, n)
		}
	}
}

// A slot that was given back, and at which Put fails, has what stood there
// ahead from the sector that fails on.
func TestPutFailsWhereAPageWas(t *testing.T) {
	for at := range 8 {
		b := newPair(t, 2, onlyAt(16+at)...)
		b.fill(1)
		b.fill(2)
		b.drop(0)
		old, now := pattern(4096, 1), pattern(4096, 3)
		if n, err := b.put(now); n != 0 || err != api.ErrIO {
			t.Fatalf("sector %d fails: %d, %v", at, n, err)
		}
		for i := range 8 {
			want := old
			if i < at {
				want = now
			}
			if !bytes.Equal(b.s.Peek(i), want[512*i:512*i+512]) {
				t.Errorf("sector %d fails: sector %d has other bytes", at, i)
			}
		}
		if got, err := b.s.Page(0); len(got) != 0 || err != api.ErrNone {
			t.Errorf("sector %d fails, Page(0): %d bytes, %v", at, len(got), err)
		}
		b.isAs()
	}
}

// Put fails again and again, and then doesn't.
func TestPutFailsOften(t *testing.T) {
	choices := append(allOf(5, true), false, false, true, false, true)
	b := newPair(t, 2, choices...)
	for at := range 7 {
		if n, err := b.fill(at); n != 0 || err != api.ErrIO {
			t.Fatalf("Put %d: %d, %v", at, n, err)
		}
		b.tellsSame()
	}
	if n, err := b.fill(8); n != 0 || err != api.OK {
		t.Errorf("Put at last: %d, %v", n, err)
	}
	b.isAs()
}

// Page fails at each of its sectors: nothing is told, luck isn't asked any
// more, and the slot stays in use, so that the next Page tells all.
func TestPageWhereASectorFails(t *testing.T) {
	for n := range 3 {
		for at := range 8 {
			b := newPair(t, 3, append(onlyAt(24+at), false)...)
			takeAll(b)
			if got, err := b.s.Page(n); len(got) != 0 || err != api.ErrIO {
				t.Fatalf("sector %d of slot %d fails: %d bytes, %v", at, n, len(got), err)
			}
			b.p.page(n)
			if b.s.Asked() != 24+at+1 || b.s.Failed() != 1 || b.s.Left() != 1 {
				t.Errorf("sector %d: Asked %d, Failed %d, Left %d", at, b.s.Asked(), b.s.Failed(), b.s.Left())
			}
			if !b.s.In(n) || b.s.Used() != 3 {
				t.Errorf("sector %d: In(%d) %t, Used %d", at, n, b.s.In(n), b.s.Used())
			}
			b.tellsSame()
			if got, err := b.s.Page(n); !bytes.Equal(got, pattern(4096, 31*n+1)) || err != api.OK {
				t.Errorf("sector %d, the next Page: %d bytes, %v", at, len(got), err)
			}
			b.p.page(n)
			b.isAs()
		}
	}
}

func TestPageOfFirstAndLast(t *testing.T) {
	for _, many := range manies[1:] {
		b := newPair(t, many)
		takeAll(b)
		for _, n := range []int{0, many - 1} {
			if got, err := b.s.Page(n); !bytes.Equal(got, pattern(4096, 31*n+1)) || err != api.OK {
				t.Errorf("of %d, Page(%d): %d bytes, %v", many, n, len(got), err)
			}
			b.p.asked += 8
		}
		for _, n := range []int{-1, many} {
			if got, err := b.s.Page(n); len(got) != 0 || err != api.ErrNone {
				t.Errorf("of %d, Page(%d): %d bytes, %v", many, n, len(got), err)
			}
		}
		b.tellsSame()
	}
}

// Of a slot that isn't in use, never was, or was given back, luck isn't asked.
func TestPageOfNone(t *testing.T) {
	everyState(t, func(b *pair) {
		for _, n := range append(outside(b.p.many), 0, 1, b.p.many-1) {
			if b.p.in(n) {
				continue
			}
			if got, err := b.s.Page(n); len(got) != 0 || err != api.ErrNone {
				b.Errorf("Page(%d): %d bytes, %v", n, len(got), err)
			}
		}
		b.tellsSame()
		b.isAs()
	})
}

func TestErrorsInTheirOrder(t *testing.T) {
	rows := []struct {
		name  string
		size  int
		full  bool
		fails bool
		want  api.Errno
	}{
		{"all of them", 4095, true, true, api.ErrArg},
		{"all of them, more bytes", 4097, true, true, api.ErrArg},
		{"all of them, no bytes", 0, true, true, api.ErrArg},
		{"other bytes, and all in use", 4097, true, false, api.ErrArg},
		{"other bytes, and it would fail", 4095, false, true, api.ErrArg},
		{"other bytes", 4097, false, false, api.ErrArg},
		{"all in use, and it would fail", 4096, true, true, api.ErrNoMem},
		{"all in use", 4096, true, false, api.ErrNoMem},
		{"it fails", 4096, false, true, api.ErrIO},
		{"nothing is wrong", 4096, false, false, api.OK},
	}
	for _, row := range rows {
		puts := 1
		if row.full {
			puts = 2
		}
		b := newPair(t, 2, append(allOf(8*puts, false), row.fails)...)
		for at := range puts {
			b.fill(at)
		}
		if n, err := b.put(pattern(row.size, 5)); err != row.want || err != api.OK && n != 0 {
			t.Errorf("%s: %d, %v", row.name, n, err)
		}
		b.isAs()
	}
	b := newPair(t, 2, true)
	for _, n := range []int{0, 2, -1} {
		if err := b.page(n); err != api.ErrNone {
			t.Errorf("Page(%d), not in use, and it would fail: %v", n, err)
		}
	}
	b.isAs()
}

// A page that is handed in is not kept, nor changed, and nothing behind its length is.
func TestPutKeepsAndChangesNothingHandedIn(t *testing.T) {
	for _, choices := range [][]bool{nil, onlyAt(3), onlyAt(12)} {
		b := newPair(t, 3, choices...)
		room := pattern(5000, 2)
		was := slices.Clone(room)
		b.put(room[:4096])
		b.put(room[40:4136])
		b.put(room[:4095])
		if !bytes.Equal(room, was) {
			t.Error("what was handed in has changed")
		}
		clear(room)
		b.tellsSame()
		b.page(0)
		b.page(1)
		b.drop(0)
		b.fill(8)
		if !bytes.Equal(room, make([]byte, 5000)) {
			t.Error("what was handed in is kept")
		}
		b.isAs()
	}
}

func TestPageIsNewMemory(t *testing.T) {
	b := newPair(t, 3)
	takeAll(b)
	for n := range 3 {
		first, _ := b.s.Page(n)
		second, _ := b.s.Page(n)
		b.p.asked += 16
		clear(first[:cap(first)])
		if !bytes.Equal(second, b.p.pages[n]) {
			t.Errorf("Page(%d) twice: one memory", n)
		}
		b.tellsSame()
	}
	b.isAs()
}

func TestPageStaysAsTold(t *testing.T) {
	b := newPair(t, 2)
	b.fill(1)
	got, _ := b.s.Page(0)
	b.p.asked += 8
	b.drop(0)
	b.fill(9)
	b.page(0)
	if !bytes.Equal(got, pattern(4096, 1)) {
		t.Error("what was told has changed")
	}
	b.isAs()
}

// What was told is handed in again, and changed then.
func TestPageIntoPut(t *testing.T) {
	b := newPair(t, 2)
	b.fill(1)
	got, _ := b.s.Page(0)
	b.p.asked += 8
	b.put(got)
	clear(got)
	b.isAs()
}

// call is something that is done, and tells a number.
type call func() (int, api.Errno)

func ones(ok bool) int {
	if ok {
		return 1
	}
	return 0
}

// Used, Asked, Failed and Left at first and behind each call are held against
// numbers that are written out here.
func TestCountsStepByStep(t *testing.T) {
	s, _ := slots.New(2, append(onlyAt(2), append(onlyAt(15), onlyAt(1)...)...)...)
	put := func(size int) call { return func() (int, api.Errno) { return s.Put(make([]byte, size)) } }
	page := func(n int) call { return func() (int, api.Errno) { got, err := s.Page(n); return len(got), err } }
	look := func(n int) call { return func() (int, api.Errno) { got, _ := s.Look(n); return len(got), api.OK } }
	drop := func(n int) call { return func() (int, api.Errno) { return ones(s.Drop(n)), api.OK } }
	rows := []struct {
		name                      string
		do                        call
		n                         int
		err                       api.Errno
		used, asked, failed, left int
	}{
		{"at first", func() (int, api.Errno) { return 0, api.OK }, 0, api.OK, 0, 0, 0, 21},
		{"Put of 4095", put(4095), 0, api.ErrArg, 0, 0, 0, 21},
		{"Put of 4097", put(4097), 0, api.ErrArg, 0, 0, 0, 21},
		{"Put of none", put(0), 0, api.ErrArg, 0, 0, 0, 21},
		{"Page of a slot never in use", page(0), 0, api.ErrNone, 0, 0, 0, 21},
		{"Look of one", look(0), 0, api.OK, 0, 0, 0, 21},
		{"Drop of one", drop(0), 0, api.OK, 0, 0, 0, 21},
		{"Put whose third sector fails", put(4096), 0, api.ErrIO, 0, 3, 1, 18},
		{"Page behind it", page(0), 0, api.ErrNone, 0, 3, 1, 18},
		{"Put", put(4096), 0, api.OK, 1, 11, 1, 10},
		{"Look", look(0), 4096, api.OK, 1, 11, 1, 10},
		{"Page whose last sector fails", page(0), 0, api.ErrIO, 1, 19, 2, 2},
		{"Put whose second sector fails", put(4096), 0, api.ErrIO, 1, 21, 3, 0},
		{"Put behind the last choice", put(4096), 1, api.OK, 2, 29, 3, 0},
		{"Put where all are in use", put(4096), 0, api.ErrNoMem, 2, 29, 3, 0},
		{"Put of 4097 there", put(4097), 0, api.ErrArg, 2, 29, 3, 0},
		{"Page", page(1), 4096, api.OK, 2, 37, 3, 0},
		{"Page of one past the last", page(2), 0, api.ErrNone, 2, 37, 3, 0},
		{"Page of -1", page(-1), 0, api.ErrNone, 2, 37, 3, 0},
		{"Drop", drop(0), 1, api.OK, 1, 37, 3, 0},
		{"Drop once more", drop(0), 0, api.OK, 1, 37, 3, 0},
		{"Page of a slot given back", page(0), 0, api.ErrNone, 1, 37, 3, 0},
		{"Look of it", look(0), 0, api.OK, 1, 37, 3, 0},
		{"Put into it", put(4096), 0, api.OK, 2, 45, 3, 0},
	}
	for _, row := range rows {
		if n, err := row.do(); n != row.n || err != row.err {
			t.Errorf("%s: %d, %v", row.name, n, err)
		}
		if s.Slots() != 2 || s.Many() != 16 || s.Used() != row.used {
			t.Errorf("%s: Slots %d, Many %d, Used %d", row.name, s.Slots(), s.Many(), s.Used())
		}
		if s.Asked() != row.asked || s.Failed() != row.failed || s.Left() != row.left {
			t.Errorf("%s: Asked %d, Failed %d, Left %d", row.name, s.Asked(), s.Failed(), s.Left())
		}
	}
	if got, ok := s.Look(0); !ok || !bytes.Equal(got, make([]byte, 4096)) {
		t.Errorf("Look at last: %d bytes, %t", len(got), ok)
	}
}

// Without slots there is no room, and luck is never asked.
func TestNoSlotsAtAll(t *testing.T) {
	b := newPair(t, 0, true, false)
	if n, err := b.fill(1); n != 0 || err != api.ErrNoMem {
		t.Errorf("Put: %d, %v", n, err)
	}
	for _, n := range append(outside(0), 0) {
		if err := b.page(n); err != api.ErrNone {
			t.Errorf("Page(%d): %v", n, err)
		}
		b.drop(n)
		b.look(n)
	}
	if b.s.Slots() != 0 || b.s.Many() != 0 || b.s.Used() != 0 || b.s.Asked() != 0 || b.s.Left() != 2 {
		t.Errorf("Slots %d, Many %d, Used %d, Asked %d, Left %d",
			b.s.Slots(), b.s.Many(), b.s.Used(), b.s.Asked(), b.s.Left())
	}
}
