package disk_test

import (
	"bytes"
	"math"
	"slices"
	"strconv"
	"testing"

	"gunny/api"
	"gunny/disk"
)

// manies are how many sectors there may be: the ends, and some between.
var manies = []int{0, 1, 2, 8, 9, 100, 1023, 1024}

// sizes are lengths that no sector has.
var sizes = []int{0, 1, 2, 255, 256, 510, 511, 513, 514, 1023, 1024, 1025, 4096, 512 + 65536}

// outside are numbers of which so many sectors have none. Of some of them the
// place of the first byte is one that a disk has, if it is counted in 64 bits or in 32.
func outside(many int) []int {
	return []int{
		math.MinInt, math.MinInt + 1, -1 << 62, -1 << 55, -1<<55 + 1, -1 << 32, -1<<32 + 1, -1 << 23, -1025, -1024, -512,
		-many - 1, -2, -1,
		many, many + 1, many + 512, 2*many + 1, 1024, 1025, 1 << 23, 1<<23 + 1024, 1 << 31, 1 << 32, 1<<32 + 1024, 1 << 55,
		1<<55 + 1024, 1 << 62, math.MaxInt - 1, math.MaxInt,
	}
}

// plain is a disk as a list of bytes for each sector that was written, and the
// choices that it was made of, from which all that luck tells is counted anew.
type plain struct {
	many    int
	wrote   map[int][]byte
	choices []bool
	asked   int
}

func (p *plain) has(n int) bool { return 0 <= n && n < p.many }

func (p *plain) fails() bool {
	p.asked++
	return p.asked <= len(p.choices) && p.choices[p.asked-1]
}

func (p *plain) peek(n int) []byte {
	if !p.has(n) {
		return nil
	}
	if b, ok := p.wrote[n]; ok {
		return b
	}
	return make([]byte, 512)
}

func (p *plain) read(n int) ([]byte, api.Errno) {
	if !p.has(n) {
		return nil, api.ErrRange
	}
	if p.fails() {
		return nil, api.ErrIO
	}
	return p.peek(n), api.OK
}

func (p *plain) write(n int, b []byte) api.Errno {
	if !p.has(n) {
		return api.ErrRange
	}
	if len(b) != 512 {
		return api.ErrArg
	}
	if p.fails() {
		return api.ErrIO
	}
	p.wrote[n] = slices.Clone(b)
	return api.OK
}

func (p *plain) failed() int {
	return says(p.choices[:min(p.asked, len(p.choices))])
}

func (p *plain) left() int {
	return max(0, len(p.choices)-p.asked)
}

func says(choices []bool) int {
	many := 0
	for _, fails := range choices {
		if fails {
			many++
		}
	}
	return many
}

// pair is a disk and a plain one, to which the same is done.
type pair struct {
	*testing.T
	d *disk.Disk
	p *plain
}

func newPair(t *testing.T, many int, choices ...bool) *pair {
	t.Helper()
	d, err := disk.New(many, choices...)
	if d == nil || err != api.OK {
		t.Fatalf("New(%d): %v", many, err)
	}
	return &pair{t, d, &plain{many, map[int][]byte{}, slices.Clone(choices), 0}}
}

func (b *pair) read(n int) api.Errno {
	b.Helper()
	got, err := b.d.Read(n)
	if want, wantErr := b.p.read(n); !bytes.Equal(got, want) || err != wantErr {
		b.Fatalf("Read(%d): %x, %v, not %x, %v", n, got, err, want, wantErr)
	}
	return err
}

func (b *pair) write(n int, what []byte) api.Errno {
	b.Helper()
	err := b.d.Write(n, what)
	if want := b.p.write(n, what); err != want {
		b.Fatalf("Write(%d, %d bytes): %v, not %v", n, len(what), err, want)
	}
	return err
}

func (b *pair) peek(n int) {
	b.Helper()
	if got, want := b.d.Peek(n), b.p.peek(n); !bytes.Equal(got, want) {
		b.Fatalf("Peek(%d): %x, not %x", n, got, want)
	}
}

func (b *pair) tellsLuck() {
	b.Helper()
	asked, failed, left := b.d.Asked(), b.d.Failed(), b.d.Left()
	if asked != b.p.asked || failed != b.p.failed() || left != b.p.left() {
		b.Fatalf("Asked %d, Failed %d, Left %d, not %d, %d, %d",
			asked, failed, left, b.p.asked, b.p.failed(), b.p.left())
	}
}

// tellsSame fails if the disk tells anything else than the plain one. It asks
// for no access.
func (b *pair) tellsSame() {
	b.Helper()
	if b.d.Many() != b.p.many {
		b.Fatalf("Many: %d, not %d", b.d.Many(), b.p.many)
	}
	b.tellsLuck()
	for n := range b.p.many {
		b.peek(n)
	}
	b.tellsLuck()
}

// isAs fails if the disk tells anything else than the plain one, or other
// accesses fail. It reads all, till some behind the last choice are read.
func (b *pair) isAs() {
	b.Helper()
	b.tellsSame()
	for b.p.many > 0 && b.p.asked < len(b.p.choices)+3 {
		b.read(b.p.asked % b.p.many)
		b.tellsLuck()
	}
	for n := range b.p.many {
		b.read(n)
	}
	b.tellsSame()
}

// fill writes a sector with bytes that hang on n and on seed and are never 0.
func (b *pair) fill(n, seed int) api.Errno {
	b.Helper()
	return b.write(n, pattern(512, 31*n+seed))
}

func fillAll(b *pair) {
	b.Helper()
	for n := range b.p.many {
		b.fill(n, 1)
	}
}

// states are names, choices, and what is done to a disk at first to come to it.
var states = []struct {
	name    string
	choices []bool
	lay     func(b *pair)
}{
	{"at first", nil, func(*pair) {}},
	{"at first, the next fails", []bool{true, false}, func(*pair) {}},
	{"written", nil, fillAll},
	{"some written", nil, func(b *pair) {
		for n := 0; n < b.p.many; n += 3 {
			b.fill(n, 4)
		}
	}},
	{"some failed", mixed(40), fillAll},
	{"all fail", allOf(1200, true), fillAll},
	{"all fail, none asked", allOf(3000, true), func(*pair) {}},
}

func everyState(t *testing.T, do func(b *pair)) {
	for _, many := range manies {
		for _, s := range states {
			t.Run(strconv.Itoa(many)+" "+s.name, func(t *testing.T) {
				b := newPair(t, many, s.choices...)
				s.lay(b)
				b.tellsSame()
				do(b)
			})
		}
	}
}

// everyRow does a thing for every row of so many choices at most.
func everyRow(most int, do func(choices []bool)) {
	for many := range most + 1 {
		for which := range 1 << many {
			choices := make([]bool, many)
			for at := range choices {
				choices[at] = which>>at&1 == 1
			}
			do(choices)
		}
	}
}

// mixed is many choices, always the same ones, in no order that is seen at once.
func mixed(many int) []bool {
	choices := make([]bool, many)
	next := steps(many + 7)
	for at := range choices {
		choices[at] = next()%3 == 0
	}
	return choices
}

func allOf(many int, fails bool) []bool {
	return slices.Repeat([]bool{fails}, many)
}

// pattern is bytes none of which is 0, in a row that is long in coming again.
func pattern(size, seed int) []byte {
	out := make([]byte, size)
	for i := range out {
		out[i] = byte(1 + (i+i/251+7*seed+seed/255)%255)
	}
	return out
}

// steps is a row of numbers from 0 on that is always the same one for a seed.
func steps(from int) func() int {
	seed := uint32(from)
	return func() int {
		seed = seed*1664525 + 1013904223
		return int(seed >> 8)
	}
}
