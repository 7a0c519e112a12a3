package slots_test

import (
	"bytes"
	"math"
	"slices"
	"strconv"
	"testing"

	"gunny/api"
	"gunny/slots"
)

// manies are how many slots there may be: the ends, and some between.
var manies = []int{0, 1, 2, 5, 64, 65, 127, 128}

// sizes are lengths that no page has.
var sizes = []int{0, 1, 7, 511, 512, 513, 2048, 3584, 4094, 4095, 4097, 4098, 4608, 8191, 8192, 8193, 4096 + 65536}

// outside are numbers of which so many slots have none. Of some of them the
// first sector is one that a disk has, if it is counted in 64 bits or in 32.
func outside(many int) []int {
	return []int{
		math.MinInt, math.MinInt + 1, -1 << 62, -1<<62 + 1, -1 << 61, -1<<61 + 1, -1 << 32, -1<<32 + 1, -1 << 29, -1<<29 + 1,
		-1024, -129, -128, -many - 1, -9, -8, -2, -1,
		many, many + 1, many + 8, 2*many + 1, 128, 129, 1023, 1024, 1025, 4096, 1 << 29, 1<<29 + 1, 1 << 31, 1 << 32, 1<<32 + 1,
		1 << 61, 1<<61 + 1, 1 << 62, 1<<62 + 1, math.MaxInt - 1, math.MaxInt,
	}
}

// plain is slots as a page for each one in use, a list of bytes for each sector
// that was written, and the choices, from which all that luck tells is counted anew.
type plain struct {
	many    int
	pages   map[int][]byte
	wrote   map[int][]byte
	choices []bool
	asked   int
}

func (p *plain) fails() bool {
	p.asked++
	return p.asked <= len(p.choices) && p.choices[p.asked-1]
}

func (p *plain) failed() int {
	many := 0
	for _, fails := range p.choices[:min(p.asked, len(p.choices))] {
		if fails {
			many++
		}
	}
	return many
}

func (p *plain) left() int {
	return max(0, len(p.choices)-p.asked)
}

func (p *plain) in(n int) bool {
	_, ok := p.pages[n]
	return ok
}

func (p *plain) peek(n int) []byte {
	if n < 0 || n >= 8*p.many {
		return nil
	}
	if b, ok := p.wrote[n]; ok {
		return b
	}
	return make([]byte, 512)
}

func (p *plain) put(page []byte) (int, api.Errno) {
	if len(page) != 4096 {
		return 0, api.ErrArg
	}
	if len(p.pages) == p.many {
		return 0, api.ErrNoMem
	}
	n := 0
	for p.in(n) {
		n++
	}
	for at := range 8 {
		if p.fails() {
			return 0, api.ErrIO
		}
		p.wrote[8*n+at] = slices.Clone(page[512*at : 512*at+512])
	}
	p.pages[n] = slices.Clone(page)
	return n, api.OK
}

func (p *plain) page(n int) ([]byte, api.Errno) {
	if !p.in(n) {
		return nil, api.ErrNone
	}
	for range 8 {
		if p.fails() {
			return nil, api.ErrIO
		}
	}
	return p.pages[n], api.OK
}

func (p *plain) drop(n int) bool {
	was := p.in(n)
	delete(p.pages, n)
	return was
}

// pair is slots and plain ones, to which the same is done.
type pair struct {
	*testing.T
	s *slots.Slots
	p *plain
}

func newPair(t *testing.T, many int, choices ...bool) *pair {
	t.Helper()
	s, err := slots.New(many, choices...)
	if s == nil || err != api.OK {
		t.Fatalf("New(%d): %v", many, err)
	}
	return &pair{t, s, &plain{many, map[int][]byte{}, map[int][]byte{}, slices.Clone(choices), 0}}
}

func (b *pair) put(page []byte) (int, api.Errno) {
	b.Helper()
	n, err := b.s.Put(page)
	if want, wantErr := b.p.put(page); n != want || err != wantErr {
		b.Fatalf("Put(%d bytes): %d, %v, not %d, %v", len(page), n, err, want, wantErr)
	}
	return n, err
}

func (b *pair) fill(seed int) (int, api.Errno) {
	b.Helper()
	return b.put(pattern(4096, seed))
}

func (b *pair) page(n int) api.Errno {
	b.Helper()
	got, err := b.s.Page(n)
	if want, wantErr := b.p.page(n); !bytes.Equal(got, want) || err != wantErr {
		b.Fatalf("Page(%d): %d bytes, %v, not %d bytes, %v, or other ones", n, len(got), err, len(want), wantErr)
	}
	return err
}

func (b *pair) drop(n int) bool {
	b.Helper()
	was := b.s.Drop(n)
	if want := b.p.drop(n); was != want {
		b.Fatalf("Drop(%d): %t", n, was)
	}
	return was
}

func (b *pair) look(n int) {
	b.Helper()
	got, ok := b.s.Look(n)
	if !bytes.Equal(got, b.p.pages[n]) || ok != b.p.in(n) {
		b.Fatalf("Look(%d): %d bytes, %t, or other ones", n, len(got), ok)
	}
}

func (b *pair) tellsCounts() {
	b.Helper()
	if got, want := b.s.Slots(), b.p.many; got != want {
		b.Fatalf("Slots: %d, not %d", got, want)
	}
	if got, want := b.s.Many(), 8*b.p.many; got != want {
		b.Fatalf("Many: %d, not %d", got, want)
	}
	if got, want := b.s.Used(), len(b.p.pages); got != want {
		b.Fatalf("Used: %d, not %d", got, want)
	}
	asked, failed, left := b.s.Asked(), b.s.Failed(), b.s.Left()
	if asked != b.p.asked || failed != b.p.failed() || left != b.p.left() {
		b.Fatalf("Asked %d, Failed %d, Left %d, not %d, %d, %d",
			asked, failed, left, b.p.asked, b.p.failed(), b.p.left())
	}
}

// tellsSame fails if the slots tell anything else than the plain ones. It asks
// for no access.
func (b *pair) tellsSame() {
	b.Helper()
	b.tellsCounts()
	for n := -1; n <= b.p.many; n++ {
		if got, want := b.s.In(n), b.p.in(n); got != want {
			b.Fatalf("In(%d): %t", n, got)
		}
		b.look(n)
	}
	for n := -1; n <= 8*b.p.many; n++ {
		if !bytes.Equal(b.s.Peek(n), b.p.peek(n)) {
			b.Fatalf("Peek(%d) has other bytes", n)
		}
	}
	b.tellsCounts()
}

// isAs fails if the slots tell anything else than the plain ones, or other
// accesses fail. It reads all, till some behind the last choice are read, and
// takes what is left.
func (b *pair) isAs() {
	b.Helper()
	b.tellsSame()
	for b.p.many > 0 && b.p.asked < len(b.p.choices) {
		if len(b.p.pages) == 0 {
			b.fill(b.p.asked)
		}
		for n := range b.p.many {
			b.page(n)
		}
		b.tellsCounts()
	}
	for n := -1; n <= b.p.many; n++ {
		b.page(n)
	}
	for range b.p.many - len(b.p.pages) + 1 {
		b.fill(b.p.asked)
	}
	b.tellsSame()
}

// takeAll puts pages till no slot is left, or one fails.
func takeAll(b *pair) {
	b.Helper()
	for n := range b.p.many {
		if _, err := b.fill(31*n + 1); err != api.OK {
			return
		}
	}
}

// everyThird has a third of the slots be in use.
func everyThird(b *pair) {
	b.Helper()
	takeAll(b)
	for n := range b.p.many {
		if n%3 != 0 {
			b.drop(n)
		}
	}
}

// states are names, choices, and what is done to slots at first to come to it.
var states = []struct {
	name    string
	choices []bool
	lay     func(b *pair)
}{
	{"at first", nil, func(*pair) {}},
	{"at first, the next fails", []bool{true, false}, func(*pair) {}},
	{"all in use", nil, takeAll},
	{"some in use", nil, everyThird},
	{"all given back", nil, func(b *pair) {
		takeAll(b)
		for n := range b.p.many {
			b.drop(n)
		}
	}},
	{"one failed", append(allOf(13, false), true), func(b *pair) {
		takeAll(b)
		takeAll(b)
	}},
	{"all fail", allOf(40, true), takeAll},
}

func everyState(t *testing.T, do func(b *pair)) {
	for _, many := range manies {
		for _, s := range states {
			t.Run(strconv.Itoa(many)+" "+s.name, func(t *testing.T) {
				b := newPair(t, many, s.choices...)
				s.lay(b)
				b.tellsSame()
				do(b)
			})
		}
	}
}

// onlyAt is choices of which just the one at that place says that it fails.
func onlyAt(at int) []bool {
	return append(allOf(at, false), true)
}

func allOf(many int, fails bool) []bool {
	return slices.Repeat([]bool{fails}, many)
}

// mixed is many choices, always the same ones, in no order that is seen at
// once: one of so many fails.
func mixed(many, one int) []bool {
	choices := make([]bool, many)
	next := steps(many + 7)
	for at := range choices {
		choices[at] = next()%one == 0
	}
	return choices
}

// pattern is bytes none of which is 0, in a row that is long in coming again.
func pattern(size, seed int) []byte {
	out := make([]byte, size)
	for i := range out {
		out[i] = byte(1 + (i+i/251+7*seed+seed/255)%255)
	}
	return out
}

// steps is a row of numbers from 0 on that is always the same one for a seed.
func steps(from int) func() int {
	seed := uint32(from)
	return func() int {
		seed = seed*1664525 + 1013904223
		return int(seed >> 8)
	}
}
