package inner_test

import (
	"bytes"
	"math"
	"slices"
	"strconv"
	"testing"

	"gunny/api"
	"gunny/inner"
	"gunny/ram"
)

// someClasses are the ends, such with one frame and with several, with one
// object and with many, and such of which objects lie across frames.
var someClasses = []int{0, 1, 2, 3, 6, 15, 21, 31, 32, 41, 46, 47, 52, 62, 63}

// noClasses are numbers that no class has.
var noClasses = []int{
	math.MinInt, math.MinInt + 1, math.MinInt + 63, -1 << 62, -1<<62 + 46, -1 << 58, -1 << 57, -1 << 32, -1<<32 + 46, -4096, -65, -64, -63, -46, -2, -1,
	64, 65, 127, 128, 255, 256, 256 + 46, 4096, 65536, 1 << 31, 1 << 32, 1<<32 + 46, 1 << 57, 1 << 58, 1<<58 + 46, 1 << 62, 1<<62 + 46,
	math.MaxInt - 1, math.MaxInt,
}

// outside are numbers that none of so many objects has.
func outside(many int) []int {
	return []int{
		math.MinInt, math.MinInt + 1, -1 << 62, -1<<62 + 1, -1 << 58, -1<<58 + 1, -1 << 32, -1<<32 + 1, -65536, -4096, -257, -256, -64, -many - 1, -many, -2, -1,
		many, many + 1, many + 2, 2*many + 1, 64, 65, 127, 128, 255, 256, 257, 4095, 4096, 65534, 65535, 65536, 65537,
		1 << 31, 1 << 32, 1<<32 + 1, 1 << 52, 1 << 58, 1<<58 + 1, 1 << 62, 1<<62 + 1, math.MaxInt - 1, math.MaxInt,
	}
}

// notMany are numbers of bytes that no object of so many has.
func notMany(size int) []int {
	return []int{
		math.MinInt, math.MinInt + 1, -1 << 62, -1 << 32, -1<<32 + 1, -4096, -size, -2, -1,
		size + 1, size + 2, size + 63, size + 64, 2 * size, 4097, 8192, 65536, 1 << 31, 1 << 32, 1<<32 + 1, 1 << 62, math.MaxInt - 1, math.MaxInt,
	}
}

func plainSize(class int) int {
	return 64 + 64*class
}

// plainFrames tries out how much of each number of frames is left over.
func plainFrames(class int) int {
	least, best := math.Inf(1), 0
	for frames := 1; frames <= 4; frames++ {
		left := 4096 * frames
		for left >= plainSize(class) {
			left -= plainSize(class)
		}
		if part := float64(left) / float64(4096*frames); part < least-1e-9 {
			least, best = part, frames
		}
	}
	return best
}

func plainObjects(class int) int {
	return 4096 * plainFrames(class) / plainSize(class)
}

// pair is a zspage in a RAM, and beside it which of its objects are taken, and
// the bytes of each. Of an object that is free the first two tell the list.
type pair struct {
	*testing.T
	r     *ram.RAM
	p     *inner.Page
	class int
	row   []int
	taken map[int]bool
	bytes [][]byte
}

func newRAM(t *testing.T, frames int) *ram.RAM {
	t.Helper()
	r, err := ram.New(frames)
	if err != api.OK {
		t.Fatal(err)
	}
	return r
}

// newPair is a zspage of the class, as it is made in a RAM of 8 frames.
func newPair(t *testing.T, class int) *pair {
	t.Helper()
	return pairIn(t, newRAM(t, 8), class)
}

func pairIn(t *testing.T, r *ram.RAM, class int) *pair {
	t.Helper()
	p, err := inner.Make(r, class)
	if p == nil || err != api.OK {
		t.Fatalf("Make(%d): %v", class, err)
	}
	b := &pair{t, r, p, class, p.Row(), map[int]bool{}, make([][]byte, plainObjects(class))}
	for n := range b.bytes {
		b.bytes[n] = b.raw(n)
	}
	return b
}

func (b *pair) size() int { return plainSize(b.class) }
func (b *pair) many() int { return len(b.bytes) }
func (b *pair) free() int { return len(b.bytes) - len(b.taken) }

// raw is the bytes of object n, read one by one from the frames that they lie in.
func (b *pair) raw(n int) []byte {
	b.Helper()
	out := make([]byte, 0, b.size())
	for i := range b.size() {
		place := n*b.size() + i
		one, ok := b.r.Read(b.row[place/4096], place%4096, 1)
		if !ok {
			b.Fatalf("object %d has no byte %d", n, i)
		}
		out = append(out, one[0])
	}
	return out
}

// link is the first two bytes of object n, as a number.
func (b *pair) link(n int) int {
	b.Helper()
	place := n * b.size()
	two, ok := b.r.Read(b.row[place/4096], place%4096, 2)
	if !ok {
		b.Fatalf("object %d has no bytes", n)
	}
	return int(two[0]) + 256*int(two[1])
}

// setLink writes over the first two bytes of object n.
func (b *pair) setLink(n, link int) {
	b.Helper()
	place := n * b.size()
	if !b.r.Write(b.row[place/4096], place%4096, []byte{byte(link), byte(link / 256)}) {
		b.Fatalf("object %d has no bytes", n)
	}
}

// take takes an object, which has to be one that was free, if there is one.
func (b *pair) take() (int, bool) {
	b.Helper()
	n, ok := b.p.Take(b.r)
	switch {
	case ok != (b.free() > 0):
		b.Fatalf("Take of %d free ones: %d, %t", b.free(), n, ok)
	case !ok && n != 0:
		b.Fatalf("Take of none: %d", n)
	case ok && (n < 0 || n >= b.many() || b.taken[n]):
		b.Fatalf("Take: %d, which isn't there, or was taken", n)
	}
	if ok {
		b.taken[n] = true
		copy(b.bytes[n], b.raw(n)[:2])
	}
	return n, ok
}

func (b *pair) give(n int) bool {
	b.Helper()
	got := b.p.Give(b.r, n)
	if got != b.taken[n] {
		b.Fatalf("Give(%d): %t", n, got)
	}
	delete(b.taken, n)
	return got
}

func (b *pair) read(n, many int) bool {
	b.Helper()
	got, ok := b.p.Read(b.r, n, many)
	if want := b.taken[n] && many >= 0 && many <= b.size(); ok != want {
		b.Fatalf("Read(%d, %d): %t", n, many, ok)
	}
	if !ok && len(got) > 0 || ok && !bytes.Equal(got, b.bytes[n][:many]) {
		b.Fatalf("Read(%d, %d): %d bytes, or other ones", n, many, len(got))
	}
	return ok
}

func (b *pair) write(n int, what []byte) bool {
	b.Helper()
	got := b.p.Write(b.r, n, what)
	if want := b.taken[n] && len(what) <= b.size(); got != want {
		b.Fatalf("Write(%d, %d bytes): %t", n, len(what), got)
	}
	if got {
		copy(b.bytes[n], what)
	}
	return got
}

// fill writes a whole object.
func (b *pair) fill(n, seed int) bool {
	b.Helper()
	return b.write(n, pattern(b.size(), seed))
}

// takeAll takes all objects that are free, and writes each.
func (b *pair) takeAll(seed int) {
	b.Helper()
	for range b.free() {
		n, _ := b.take()
		b.fill(n, seed+n)
	}
}

// keep gives all objects back that are taken, but for these.
func (b *pair) keep(these ...int) {
	b.Helper()
	for n := range b.many() {
		if b.taken[n] && !slices.Contains(these, n) {
			b.give(n)
		}
	}
}

// only has just these objects be taken, each of which is written.
func (b *pair) only(these ...int) {
	b.Helper()
	b.takeAll(5)
	b.keep(these...)
}

func (b *pair) list() []int {
	b.Helper()
	l, ok := b.p.List(b.r)
	if !ok {
		b.Fatalf("List: %v, false", l)
	}
	return l
}

// tellsList fails if the list isn't one of each free object, told just once, as
// the first two bytes of each of them say.
func (b *pair) tellsList() {
	b.Helper()
	l := b.list()
	if len(l) != b.free() {
		b.Fatalf("List: %v, of %d free ones", l, b.free())
	}
	told := map[int]bool{}
	for at, n := range l {
		if n < 0 || n >= b.many() || b.taken[n] || told[n] {
			b.Fatalf("List: %v, of which %d isn't free, or told twice", l, n)
		}
		told[n] = true
		next := 0
		if at+1 < len(l) {
			next = l[at+1] + 1
		}
		if got := b.link(n); got != next {
			b.Fatalf("List: %v, but the bytes of %d tell %d", l, n, got)
		}
	}
}

// tellsCounts fails if the zspage tells anything else of itself, without its
// bytes being read.
func (b *pair) tellsCounts() {
	b.Helper()
	class, many, used := b.p.Class(), b.p.Many(), b.p.Used()
	if class != b.class || many != b.many() || used != len(b.taken) {
		b.Fatalf("Class %d, Many %d, Used %d, not %d, %d, %d", class, many, used, b.class, b.many(), len(b.taken))
	}
	if got := b.p.Row(); !slices.Equal(got, b.row) {
		b.Fatalf("Row: %v, not %v", got, b.row)
	}
	for n := -2; n < b.many()+3; n++ {
		if got := b.p.Has(n); got != b.taken[n] {
			b.Fatalf("Has(%d): %t", n, got)
		}
	}
	for _, n := range b.row {
		if got := b.r.Owner(n); got != api.Pool {
			b.Fatalf("frame %d is of %d", n, got)
		}
	}
}

// tellsSame fails if the zspage tells anything else than it should, or any byte
// of its objects is another one, but for the first two of those that are free.
func (b *pair) tellsSame() {
	b.Helper()
	b.tellsCounts()
	b.tellsList()
	for n := range b.many() {
		got, want := b.raw(n), b.bytes[n]
		if !bytes.Equal(got[2:], want[2:]) || b.taken[n] && !bytes.Equal(got, want) {
			b.Fatalf("object %d has other bytes", n)
		}
		b.read(n, b.size())
	}
}

// view is what a call that is refused may not change, but for what the RAM
// counts.
type view struct {
	pages       [][]byte
	owners, row []int
	used        int
	list        []int
}

// look is a view of the RAM, and of the zspage.
func (b *pair) look() view {
	b.Helper()
	v := view{row: b.p.Row(), used: b.p.Used()}
	for n := range b.r.Many() {
		page, _ := b.r.Read(n, 0, 4096)
		v.pages = append(v.pages, page)
		v.owners = append(v.owners, b.r.Owner(n))
	}
	v.list, _ = b.p.List(b.r)
	return v
}

// changesNothing fails if what is done changes anything that a later call could
// tell. It may read no bytes.
func (b *pair) changesNothing(what string, do func()) {
	b.Helper()
	ahead := b.look()
	touches, turns := b.r.Touches(), b.r.Turns()
	do()
	if got := b.r.Touches(); got != touches {
		b.Fatalf("%s: %d touches more", what, got-touches)
	}
	if got := b.r.Turns(); got != turns {
		b.Fatalf("%s: %d turns more", what, got-turns)
	}
	behind := b.look()
	same := slices.Equal(ahead.owners, behind.owners) && slices.Equal(ahead.row, behind.row) &&
		ahead.used == behind.used && slices.Equal(ahead.list, behind.list)
	if !same || !slices.EqualFunc(ahead.pages, behind.pages, bytes.Equal) {
		b.Fatalf("%s changes something", what)
	}
}

// states are names, and what is done to a new zspage to come to it.
var states = []struct {
	name string
	lay  func(b *pair)
}{
	{"at first", func(*pair) {}},
	{"one taken", func(b *pair) {
		n, _ := b.take()
		b.fill(n, 1)
	}},
	{"all taken", func(b *pair) { b.takeAll(2) }},
	{"every third taken", func(b *pair) {
		b.takeAll(3)
		for n := b.many() - 1; n >= 0; n-- {
			if n%3 > 0 {
				b.give(n)
			}
		}
	}},
	{"all given back", func(b *pair) {
		b.takeAll(4)
		for at := range b.many() {
			b.give((at*7 + 3) % b.many())
		}
		b.keep()
	}},
	{"one of all given back", func(b *pair) {
		b.takeAll(6)
		b.give(b.many() / 2)
	}},
}

func everyState(t *testing.T, do func(b *pair)) {
	for _, class := range someClasses {
		for _, s := range states {
			t.Run(strconv.Itoa(class)+" "+s.name, func(t *testing.T) {
				b := newPair(t, class)
				s.lay(b)
				b.tellsSame()
				do(b)
			})
		}
	}
}

// pattern is bytes none of which is 0, in a row that is long in coming again.
func pattern(size, seed int) []byte {
	out := make([]byte, size)
	for i := range out {
		out[i] = byte(1 + (i+i/251+7*seed+seed/255)%255)
	}
	return out
}

// steps is a row of numbers from 0 on that is always the same one for a seed.
func steps(from int) func() int {
	seed := uint32(from)
	return func() int {
		seed = seed*1664525 + 1013904223
		return int(seed >> 8)
	}
}
