package ram_test

import (
	"bytes"
	"math"
	"slices"
	"strconv"
	"testing"

	"gunny/api"
	"gunny/frames"
	"gunny/ram"
)

// manies are how many frames there may be: the ends, and some between.
var manies = []int{8, 9, 50, 96}

// takers are the owners that take frames.
var takers = []int{api.User, api.Table, api.Pool}

// noOwners are numbers that are no owners.
var noOwners = []int{
	math.MinInt, math.MinInt + 1, -1 << 62, -1 << 32, -1<<32 + 1, -256, -255, -3, -1,
	4, 5, 7, 255, 256, 257, 1 << 31, 1 << 32, 1<<32 + 1, 1 << 62, 1<<62 + 2, math.MaxInt - 1, math.MaxInt,
}

// outside are numbers of which so many frames have none.
func outside(many int) []int {
	return []int{
		math.MinInt, math.MinInt + 1, -1 << 62, -1 << 52, -1 << 32, -1<<32 + 1, -256, -many, -2, -1,
		many, many + 1, 2 * many, 97, 128, 256, 257, 4096, 1 << 31, 1 << 32, 1<<32 + 1, 1 << 52, 1<<52 + 1, 1 << 62,
		math.MaxInt - 1, math.MaxInt,
	}
}

// noParts are places and sizes of parts that no frame has all bytes of.
var noParts = []struct{ at, size int }{
	{0, 4097}, {0, 4098}, {0, 8192}, {1, 4096}, {2, 4095}, {4095, 2}, {4096, 1}, {4097, 1}, {4096, 4096}, {8192, 8},
	{0, -1}, {1, -1}, {8, -8}, {4095, -1}, {4096, -1}, {4097, -1}, {4096, -4096}, {5000, -1000}, {4104, -8},
	{-1, 0}, {-1, 1}, {-1, 2}, {-1, 4097}, {-8, 8}, {-8, 16}, {-1, -1}, {-4096, 4096}, {-4096, 8192},
	{4097, 0}, {8192, 0},
	{0, math.MaxInt}, {1, math.MaxInt}, {2, math.MaxInt}, {4096, math.MaxInt}, {4096, math.MaxInt - 4095},
	{0, math.MinInt}, {1, math.MinInt}, {4096, math.MinInt}, {-1, math.MinInt}, {-4096, math.MinInt},
	{math.MaxInt, 0}, {math.MaxInt, 1}, {math.MaxInt, 2}, {math.MaxInt, 4096}, {math.MaxInt - 7, 8}, {math.MaxInt, math.MaxInt},
	{math.MinInt, 0}, {math.MinInt, 1}, {math.MinInt, 4096}, {math.MinInt, math.MaxInt}, {math.MinInt, math.MinInt},
	{math.MaxInt, math.MinInt}, {-1, math.MaxInt}, {1 << 32, 1}, {1 << 32, 0}, {0, 1 << 32}, {1<<32 + 8, 8}, {8, 1<<32 + 8},
}

// noWords are numbers that no word of a frame has. Of some of them the place of
// the first byte is one that a frame has, if it is counted in 64 bits or in 32.
var noWords = []int{
	-1, -2, -8, -511, -512, -513, -4096, 512, 513, 514, 1023, 1024, 4088, 4096, 65536,
	1 << 29, 1<<29 + 1, 1 << 31, 1 << 32, 1<<32 + 511, 1 << 60, 1 << 61, 1<<61 + 1, 1<<61 + 511, 1 << 62, 1<<62 + 1,
	-1 << 29, -1 << 32, -1 << 60, -1 << 61, -1<<61 + 1, -1 << 62, -1<<62 + 7,
	math.MaxInt, math.MaxInt - 1, math.MinInt, math.MinInt + 1, math.MinInt + 511,
}

// plain is a RAM as frames of its own, and a list of bytes for each of them.
type plain struct {
	book    *frames.Frames
	pages   [][]byte
	touches int
}

func newPlain(many int) *plain {
	f, _ := frames.New(many)
	return &plain{book: f, pages: make([][]byte, many)}
}

func (p *plain) take(owner int) (int, bool) {
	n, ok := p.book.Take(owner)
	if ok {
		p.pages[n] = make([]byte, 4096)
	}
	return n, ok
}

// may tells whether a frame is in use and has so many bytes from at on, and counts it if so.
func (p *plain) may(n, at, size int) bool {
	ok := p.book.Owner(n) != api.Free && 0 <= size && size <= 4096 && 0 <= at && at <= 4096 && at+size <= 4096
	if ok {
		p.touches++
	}
	return ok
}

func (p *plain) read(n, at, size int) ([]byte, bool) {
	if !p.may(n, at, size) {
		return nil, false
	}
	return p.pages[n][at : at+size], true
}

func (p *plain) write(n, at int, b []byte) bool {
	if !p.may(n, at, len(b)) {
		return false
	}
	for i, x := range b {
		p.pages[n][at+i] = x
	}
	return true
}

func (p *plain) word(n, i int) (uint64, bool) {
	if i < 0 || i > 511 || !p.may(n, 8*i, 8) {
		return 0, false
	}
	var w uint64
	for k := 7; k >= 0; k-- {
		w = w*256 + uint64(p.pages[n][8*i+k])
	}
	return w, true
}

func (p *plain) setWord(n, i int, w uint64) bool {
	if i < 0 || i > 511 || !p.may(n, 8*i, 8) {
		return false
	}
	for k := range 8 {
		p.pages[n][8*i+k] = byte(w % 256)
		w /= 256
	}
	return true
}

// pair is a RAM and a plain one, to which the same is done.
type pair struct {
	*testing.T
	r *ram.RAM
	p *plain
}

func newPair(t *testing.T, many int) *pair {
	t.Helper()
	r, err := ram.New(many)
	if r == nil || err != api.OK {
		t.Fatalf("New(%d): %v, %v", many, r, err)
	}
	return &pair{t, r, newPlain(many)}
}

func (b *pair) many() int { return len(b.p.pages) }

func (b *pair) take(owner int) int {
	b.Helper()
	got, ok := b.r.Take(owner)
	if want, wantOK := b.p.take(owner); got != want || ok != wantOK {
		b.Fatalf("Take(%d): %d, %t, not %d, %t", owner, got, ok, want, wantOK)
	}
	return got
}

func (b *pair) give(n int) bool {
	b.Helper()
	got := b.r.Give(n)
	if want := b.p.book.Give(n); got != want {
		b.Fatalf("Give(%d): %t", n, got)
	}
	return got
}

func (b *pair) read(n, at, size int) bool {
	b.Helper()
	got, ok := b.r.Read(n, at, size)
	if want, wantOK := b.p.read(n, at, size); !bytes.Equal(got, want) || ok != wantOK {
		b.Fatalf("Read(%d, %d, %d): %x, %t, not %x, %t", n, at, size, got, ok, want, wantOK)
	}
	return ok
}

func (b *pair) write(n, at int, what []byte) bool {
	b.Helper()
	got := b.r.Write(n, at, what)
	if want := b.p.write(n, at, what); got != want {
		b.Fatalf("Write(%d, %d, %d bytes): %t", n, at, len(what), got)
	}
	return got
}

func (b *pair) word(n, i int) bool {
	b.Helper()
	got, ok := b.r.Word(n, i)
	if want, wantOK := b.p.word(n, i); got != want || ok != wantOK {
		b.Fatalf("Word(%d, %d): %x, %t, not %x, %t", n, i, got, ok, want, wantOK)
	}
	return ok
}

func (b *pair) setWord(n, i int, w uint64) bool {
	b.Helper()
	got := b.r.SetWord(n, i, w)
	if want := b.p.setWord(n, i, w); got != want {
		b.Fatalf("SetWord(%d, %d, %x): %t", n, i, w, got)
	}
	return got
}

// fill writes a frame whole, with bytes that hang on n and on seed and are never 0.
func (b *pair) fill(n, seed int) {
	b.Helper()
	b.write(n, 0, pattern(4096, 31*n+seed))
}

// tellsFrames fails if what a RAM has of frames isn't what frames tell, or it counts touches otherwise.
func (b *pair) tellsFrames() {
	b.Helper()
	r, f := b.r, b.p.book
	if r.Many() != b.many() || r.Turns() != f.Turns() || r.Touches() != b.p.touches {
		b.Fatalf("Many %d, Turns %d, Touches %d, not %d, %d, %d",
			r.Many(), r.Turns(), r.Touches(), b.many(), f.Turns(), b.p.touches)
	}
	for n := range b.many() {
		if r.Owner(n) != f.Owner(n) {
			b.Fatalf("Owner(%d): %d, not %d", n, r.Owner(n), f.Owner(n))
		}
	}
	for owner := -1; owner < 5; owner++ {
		if got, want := r.Of(owner), f.Of(owner); !slices.Equal(got, want) {
			b.Fatalf("Of(%d): %d, not %d", owner, got, want)
		}
		if got, want := r.Count(owner, api.Pool), f.Count(owner, api.Pool); got != want {
			b.Fatalf("Count(%d, Pool): %d, not %d", owner, got, want)
		}
	}
	if r.Count() != 0 || r.Count(0, 1, 2, 3) != b.many() {
		b.Fatalf("Count of none %d, of all %d", r.Count(), r.Count(0, 1, 2, 3))
	}
}

// tellsSame fails if the RAM tells anything else than the plain one: of frames,
// of any byte, or by Touches.
func (b *pair) tellsSame() {
	b.Helper()
	b.tellsFrames()
	for n := range b.many() {
		b.read(n, 0, 4096)
	}
	b.tellsFrames()
}

// isAs fails if the RAM tells anything else than the plain one, or takes frames
// that are Free in another order, or has bytes other than 0 in these. It takes all.
func (b *pair) isAs() {
	b.Helper()
	b.tellsSame()
	for b.p.book.Count(api.Free) > 0 {
		b.take(api.User)
	}
	b.take(api.User)
	b.tellsSame()
}

// states are names, and what is done to a RAM at first to come to it.
var states = []struct {
	name string
	lay  func(b *pair)
}{
	{"at first", func(*pair) {}},
	{"one taken", func(b *pair) { b.take(api.Table) }},
	{"one written", func(b *pair) { b.fill(b.take(api.Pool), 3) }},
	{"all written", fillAll},
	{"all written, all given", func(b *pair) {
		fillAll(b)
		for n := range b.many() {
			b.give(n)
		}
	}},
	{"all written, some given, some taken anew", func(b *pair) {
		fillAll(b)
		for n := 0; n < b.many(); n += 2 {
			b.give(n)
		}
		b.take(api.Pool)
		b.fill(b.take(api.User), 5)
	}},
}

func fillAll(b *pair) {
	b.Helper()
	for n := range b.many() {
		b.fill(b.take(takers[n%3]), 1)
	}
}

func everyState(t *testing.T, do func(b *pair)) {
	for _, many := range manies {
		for _, s := range states {
			t.Run(strconv.Itoa(many)+" "+s.name, func(t *testing.T) {
				b := newPair(t, many)
				s.lay(b)
				b.tellsSame()
				do(b)
			})
		}
	}
}

// pattern is bytes none of which is 0, in a row that is long in coming again.
func pattern(size, seed int) []byte {
	out := make([]byte, size)
	for i := range out {
		out[i] = byte(1 + (i+i/251+7*seed)%255)
	}
	return out
}

// steps is a row of numbers from 0 on that is always the same one for a seed.
func steps(from int) func() int {
	seed := uint32(from)
	return func() int {
		seed = seed*1664525 + 1013904223
		return int(seed >> 8)
	}
}
