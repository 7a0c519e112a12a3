package pool_test

import (
	"bytes"
	"maps"
	"math"
	"slices"
	"testing"

	"gunny/api"
	"gunny/handle"
	"gunny/pool"
	"gunny/ram"
)

// far are numbers that are no handle, no class and no length; some of them
// would be one if only their lower bits were looked at.
var far = []int{
	math.MinInt, math.MinInt + 1, math.MinInt + 64, -1 << 62, -1<<62 + 1, -1<<58 + 1, -1 << 32, -1<<32 + 1, -1<<32 + 46, -65536, -65535, -4097, -4096, -513, -512, -511, -257, -256, -64, -2, -1,
	4097, 4098, 8192, 65535, 65536, 65537, 1 << 31, 1<<31 + 1, 1 << 32, 1<<32 + 1, 1<<32 + 46, 1 << 52, 1 << 58, 1<<58 + 1, 1 << 62, 1<<62 + 1, math.MaxInt - 1, math.MaxInt,
}

func noHandles() []int {
	return append(slices.Clone(far), 0, 513, 514, 575, 1023, 1024, 1025, 4095, 4096)
}

func noClasses() []int {
	return append(slices.Clone(far), 64, 65, 127, 128, 255, 256, 257, 302, 4095, 4096)
}

// noLengths are numbers of bytes that no object has.
func noLengths() []int { return append(slices.Clone(far), 0) }

// lengths are those at each edge of a class.
func lengths() []int {
	var out []int
	for class := range 64 {
		out = append(out, 64*class+1, 64*class+2, 64*class+63, 64*class+64)
	}
	return out
}

// plainClass tries out which class is the first with room.
func plainClass(n int) int {
	class := 0
	for plainSize(class) < n {
		class++
	}
	return class
}

func plainSize(class int) int { return 64 + 64*class }

// plainFrames tries out how much of each number of frames is left over.
func plainFrames(class int) int {
	least, best := math.Inf(1), 0
	for frames := 1; frames <= 4; frames++ {
		left := 4096 * frames
		for left >= plainSize(class) {
			left -= plainSize(class)
		}
		if part := float64(left) / float64(4096*frames); part < least-1e-9 {
			least, best = part, frames
		}
	}
	return best
}

func plainMany(class int) int {
	return 4096 * plainFrames(class) / plainSize(class)
}

// sheet is a zspage: its class, its frames, and which of its objects are taken.
type sheet struct {
	class int
	row   []int
	taken map[int]bool
}

// object is what a handle has.
type object struct {
	place handle.Place
	bytes []byte
}

// pair is a pool, and beside it all zspages by their numbers, and all objects by
// their handles, which are gone through from the first one on. Which object of
// a zspage is taken is the pool's choice, and so is which frames a new one has.
type pair struct {
	*testing.T
	r       *ram.RAM
	p       *pool.Pool
	sheets  map[int]*sheet
	objects map[int]object
}

func newRAM(t *testing.T, frames int) *ram.RAM {
	t.Helper()
	r, err := ram.New(frames)
	if err != api.OK {
		t.Fatal(err)
	}
	return r
}

func newPair(t *testing.T, frames int) *pair {
	t.Helper()
	return pairIn(t, newRAM(t, frames))
}

func pairIn(t *testing.T, r *ram.RAM) *pair {
	t.Helper()
	p := pool.New(r)
	if p == nil || p.RAM() != r {
		t.Fatal("New: a pool of another RAM, or none")
	}
	return &pair{t, r, p, map[int]*sheet{}, map[int]object{}}
}

// best is the zspage of a class that has room, and least of it, of all but one.
func (b *pair) best(class, but int) (int, bool) {
	best, least := 0, math.MaxInt
	for n := range 200 {
		s := b.sheets[n]
		if s == nil || s.class != class || n == but {
			continue
		}
		if free := plainMany(class) - len(s.taken); free > 0 && free < least {
			best, least = n, free
		}
	}
	return best, least < math.MaxInt
}

// needs is what a new object of n bytes is to be: in which zspage, with how many
// frames more, by which handle; or an error.
func (b *pair) needs(n int) (page, frames, h int, err api.Errno) {
	if n < 1 || n > 4096 {
		return 0, 0, 0, api.ErrArg
	}
	if len(b.objects) == 512 {
		return 0, 0, 0, api.ErrNoMem
	}
	for h = 1; b.objects[h].bytes != nil; h++ {
	}
	class := plainClass(n)
	if page, ok := b.best(class, -1); ok {
		return page, 0, h, api.OK
	}
	frames = plainFrames(class)
	if len(b.r.Of(api.Free)) < frames {
		return 0, 0, 0, api.ErrNoMem
	}
	for b.sheets[page] != nil {
		page++
	}
	return page, frames, h, api.OK
}

// alloc puts bytes, or is refused.
func (b *pair) alloc(what []byte) (int, api.Errno) {
	b.Helper()
	page, frames, h, err := b.needs(len(what))
	free, touches, turns := b.r.Of(api.Free), b.r.Touches(), b.r.Turns()
	got, gotErr := b.p.Alloc(what)
	if got != h || gotErr != err {
		b.Fatalf("Alloc of %d bytes: %d, %v, not %d, %v", len(what), got, gotErr, h, err)
	}
	if b.r.Turns() != turns+frames || err != api.OK && b.r.Touches() != touches {
		b.Fatalf("Alloc of %d bytes, %v: %d turns more, not %d, and %d touches", len(what), err, b.r.Turns()-turns, frames, b.r.Touches()-touches)
	}
	if err != api.OK {
		return 0, err
	}
	if frames > 0 {
		b.opened(page, plainClass(len(what)), frames, free)
	}
	b.placed(h, page, slices.Clone(what))
	return h, api.OK
}

// opened notes a new zspage, which has to have as many frames that were Free.
func (b *pair) opened(page, class, frames int, free []int) {
	b.Helper()
	row := b.sheet(page).Row
	for _, f := range row {
		if !slices.Contains(free, f) || b.r.Owner(f) != api.Pool {
			b.Fatalf("zspage %d has frame %d, which wasn't Free, or isn't the Pool's", page, f)
		}
	}
	if len(row) != frames {
		b.Fatalf("zspage %d of class %d has frames %v", page, class, row)
	}
	b.sheets[page] = &sheet{class, row, map[int]bool{}}
}

// placed notes that a handle has an object of a zspage, which has to have been
// free.
func (b *pair) placed(h, page int, what []byte) {
	b.Helper()
	s := b.sheets[page]
	p, ok := b.p.Where(h)
	if !ok || p.Page != page || p.Len != len(what) {
		b.Fatalf("Where(%d): %v, %t, of %d bytes in zspage %d", h, p, ok, len(what), page)
	}
	if p.Obj < 0 || p.Obj >= plainMany(s.class) || s.taken[p.Obj] {
		b.Fatalf("Where(%d): %v, an object that isn't there, or was taken", h, p)
	}
	s.taken[p.Obj] = true
	b.objects[h] = object{p, what}
}

// left notes that an object isn't taken any more, and how many frames that
// gives back.
func (b *pair) left(p handle.Place) int {
	s := b.sheets[p.Page]
	delete(s.taken, p.Obj)
	if len(s.taken) > 0 {
		return 0
	}
	delete(b.sheets, p.Page)
	return len(s.row)
}

func (b *pair) sheet(page int) pool.Sheet {
	b.Helper()
	for _, s := range b.p.Sheets() {
		if s.Page == page {
			return s
		}
	}
	b.Fatalf("there is no zspage %d", page)
	return pool.Sheet{}
}

func (b *pair) free(h int) bool {
	b.Helper()
	o, want := b.objects[h]
	turns := b.r.Turns()
	if got := b.p.Free(h); got != want {
		b.Fatalf("Free(%d): %t", h, got)
	}
	back := 0
	if want {
		delete(b.objects, h)
		back = b.left(o.place)
	}
	if got := b.r.Turns() - turns; got != back {
		b.Fatalf("Free(%d): %d turns more, not %d", h, got, back)
	}
	return want
}

func (b *pair) shift(h int) bool {
	b.Helper()
	o, used := b.objects[h]
	page, want := 0, false
	if used {
		page, want = b.best(b.sheets[o.place.Page].class, o.place.Page)
	}
	touches, turns := b.r.Touches(), b.r.Turns()
	if got := b.p.Shift(h); got != want {
		b.Fatalf("Shift(%d): %t", h, got)
	}
	back := 0
	if want {
		b.placed(h, page, o.bytes)
		back = b.left(o.place)
	}
	if got := b.r.Turns() - turns; got != back || !want && b.r.Touches() != touches {
		b.Fatalf("Shift(%d): %d turns more, not %d, and %d touches", h, got, back, b.r.Touches()-touches)
	}
	return want
}

func (b *pair) read(h int) {
	b.Helper()
	o, want := b.objects[h]
	got, ok := b.p.Read(h)
	if ok != want || !bytes.Equal(got, o.bytes) {
		b.Fatalf("Read(%d): %d bytes, %t, not %d, %t, or other ones", h, len(got), ok, len(o.bytes), want)
	}
}

func (b *pair) where(h int) {
	b.Helper()
	o, want := b.objects[h]
	if got, ok := b.p.Where(h); ok != want || got != o.place {
		b.Fatalf("Where(%d): %v, %t, not %v, %t", h, got, ok, o.place, want)
	}
}

func (b *pair) need(n int) int {
	b.Helper()
	want := 0
	if n >= 1 && n <= 4096 {
		if _, ok := b.best(plainClass(n), -1); !ok {
			want = plainFrames(plainClass(n))
		}
	}
	if got := b.p.Need(n); got != want {
		b.Fatalf("Need(%d): %d, not %d", n, got, want)
	}
	return want
}

// tellsCounts fails if the pool tells anything else of itself than it should,
// without an object being read.
func (b *pair) tellsCounts() {
	b.Helper()
	many, all := len(b.objects), 0
	for _, o := range b.objects {
		all += len(o.bytes)
	}
	var objects [64]int
	var frames []int
	for _, s := range b.sheets {
		objects[s.class] += len(s.taken)
		frames = append(frames, s.row...)
	}
	if l, n, f := b.p.Len(), b.p.Bytes(), b.p.Frames(); l != many || n != all || f != len(frames) {
		b.Fatalf("Len %d, Bytes %d, Frames %d, not %d, %d, %d", l, n, f, many, all, len(frames))
	}
	for class, want := range objects {
		if got := b.p.Objects(class); got != want {
			b.Fatalf("Objects(%d): %d, not %d", class, got, want)
		}
	}
	slices.Sort(frames)
	if got := b.r.Of(api.Pool); !slices.Equal(got, frames) {
		b.Fatalf("frames %v are the Pool's, not %v", got, frames)
	}
	b.tellsSheets()
}

func (b *pair) tellsSheets() {
	b.Helper()
	var want []pool.Sheet
	for _, n := range slices.Sorted(maps.Keys(b.sheets)) {
		s := b.sheets[n]
		want = append(want, pool.Sheet{Page: n, Class: s.class, Used: len(s.taken), Many: plainMany(s.class), Row: s.row})
	}
	if got := b.p.Sheets(); !slices.EqualFunc(got, want, sameSheet) {
		b.Fatalf("Sheets: %v, not %v", got, want)
	}
}

func sameSheet(a, b pool.Sheet) bool {
	return a.Page == b.Page && a.Class == b.Class && a.Used == b.Used && a.Many == b.Many && slices.Equal(a.Row, b.Row)
}

// tellsSame fails if the pool tells anything else than it should.
func (b *pair) tellsSame() {
	b.Helper()
	b.tellsCounts()
	for h := -1; h < 515; h++ {
		b.where(h)
		b.read(h)
	}
	for _, n := range []int{0, 1, 64, 65, 128, 1000, 1024, 2000, 2048, 3008, 4095, 4096, 4097} {
		b.need(n)
	}
}

// view is all that the pool and its RAM tell, but for what the RAM counts.
type view struct {
	pages  [][]byte
	owners []int
	free   []int
	sheets []pool.Sheet
	places []handle.Place
}

func (b *pair) look() view {
	v := view{sheets: b.p.Sheets()}
	for n := range b.r.Many() {
		page, _ := b.r.Read(n, 0, 4096)
		v.pages = append(v.pages, page)
		v.owners = append(v.owners, b.r.Owner(n))
	}
	for h := range 514 {
		p, _ := b.p.Where(h)
		v.places = append(v.places, p)
	}
	return v
}

// changesNothing fails if what is done changes anything that a later call could
// tell. It may read no bytes.
func (b *pair) changesNothing(what string, do func()) {
	b.Helper()
	ahead := b.look()
	touches, turns := b.r.Touches(), b.r.Turns()
	do()
	if got := b.r.Touches(); got != touches {
		b.Fatalf("%s: %d touches more", what, got-touches)
	}
	if got := b.r.Turns(); got != turns {
		b.Fatalf("%s: %d turns more", what, got-turns)
	}
	behind := b.look()
	same := slices.Equal(ahead.owners, behind.owners) && slices.Equal(ahead.places, behind.places) &&
		slices.EqualFunc(ahead.sheets, behind.sheets, sameSheet)
	if !same || !slices.EqualFunc(ahead.pages, behind.pages, bytes.Equal) {
		b.Fatalf("%s changes something", what)
	}
}

// put has so many bytes be kept, which has to be done.
func (b *pair) put(many, seed int) int {
	b.Helper()
	h, err := b.alloc(pattern(many, seed))
	if err != api.OK {
		b.Fatalf("Alloc of %d bytes: %v", many, err)
	}
	return h
}

// lay makes zspages of a class, one behind the other, of which so many objects
// are taken each, and tells their handles. One without objects is closed.
func (b *pair) lay(class int, used ...int) [][]int {
	b.Helper()
	out := make([][]int, len(used))
	for at := range used {
		for n := range plainMany(class) {
			out[at] = append(out[at], b.put(plainSize(class)-n%64, at*100+n))
		}
	}
	for at, keep := range used {
		for _, h := range out[at][keep:] {
			b.free(h)
		}
		out[at] = out[at][:keep]
	}
	return out
}

// others takes Free frames for a user, till so many are left.
func (b *pair) others(left int) {
	for b.r.Count(api.Free) > left {
		b.r.Take(api.User)
	}
}

// fillings are names, and pools as they come to be.
var fillings = []struct {
	name   string
	frames int
	lay    func(b *pair)
}{
	{"empty", 8, func(*pair) {}},
	{"one object", 8, func(b *pair) { b.put(2000, 1) }},
	{"two of 2000", 8, func(b *pair) { b.put(2000, 1); b.put(2000, 2) }},
	{"all freed", 8, func(b *pair) { b.lay(46, 0, 0); b.lay(0, 0) }},
	{"several classes", 24, func(b *pair) {
		for n, class := range []int{0, 63, 2, 15, 31, 46, 1, 15, 47, 62, 0} {
			b.put(plainSize(class)-n, n)
		}
	}},
	{"room in several zspages", 24, func(b *pair) { b.lay(15, 1, 4, 2, 3, 2); b.lay(46, 2, 4, 3) }},
	{"numbers between that none has", 24, func(b *pair) { b.lay(15, 2, 0, 4, 0, 1); b.lay(63, 1, 0, 1); b.lay(46, 4, 0, 1) }},
	{"no frame Free, and room", 8, func(b *pair) { b.lay(15, 1, 4); b.put(64, 5); b.others(0) }},
	{"no frame Free, and no room", 8, func(b *pair) { b.lay(63, 1, 1, 1, 1, 1, 1, 1, 1) }},
	{"512 handles, and no frame Free", 8, func(b *pair) { b.lay(0, 64, 64, 64, 64, 64, 64, 64, 64) }},
	{"512 handles, and room", 96, func(b *pair) {
		b.lay(0, 64, 64, 64, 64, 64, 64, 63)
		b.lay(1, 32, 30)
		b.put(3000, 1)
		b.put(3000, 2)
		b.put(4096, 3)
	}},
}

func everyFilling(t *testing.T, do func(b *pair)) {
	for _, f := range fillings {
		t.Run(f.name, func(t *testing.T) {
			b := newPair(t, f.frames)
			f.lay(b)
			b.tellsSame()
			do(b)
			b.tellsSame()
		})
	}
}

// pattern is bytes none of which is 0, in a row that is long in coming again.
func pattern(size, seed int) []byte {
	out := make([]byte, size)
	for i := range out {
		out[i] = byte(1 + (i+i/251+7*seed+seed/255)%255)
	}
	return out
}

// steps is a row of numbers from 0 on that is always the same one for a seed.
func steps(from int) func() int {
	seed := uint32(from)
	return func() int {
		seed = seed*1664525 + 1013904223
		return int(seed >> 8)
	}
}
