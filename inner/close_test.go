package inner_test

import (
	"bytes"
	"slices"
	"testing"

	"gunny/api"
)

// Promise 17.3: Close

// tellsClosed fails if a zspage that is closed has something still.
func (b *pair) tellsClosed() {
	b.Helper()
	if b.p.Class() != b.class || len(b.p.Row()) > 0 || b.p.Many() != 0 || b.p.Used() != 0 {
		b.Fatalf("Class %d, Row %v, Many %d, Used %d", b.p.Class(), b.p.Row(), b.p.Many(), b.p.Used())
	}
	for n := -2; n < b.many()+2; n++ {
		if b.p.Has(n) {
			b.Fatalf("Has(%d)", n)
		}
	}
	if l, ok := b.p.List(b.r); len(l) > 0 || !ok {
		b.Fatalf("List: %v, %t", l, ok)
	}
}

func TestCloseWithNoneTaken(t *testing.T) {
	for class := range 64 {
		for _, s := range states {
			b := newPair(t, class)
			s.lay(b)
			b.keep()
			if !b.p.Close(b.r) {
				t.Fatalf("class %d %s: Close: false", class, s.name)
			}
			if b.r.Count(api.Free) != 8 || b.r.Turns() != 2*len(b.row) {
				t.Errorf("class %d %s: Free %d, Turns %d", class, s.name, b.r.Count(api.Free), b.r.Turns())
			}
			b.tellsClosed()
		}
	}
}

func TestCloseWithAnyOneTaken(t *testing.T) {
	for _, class := range someClasses {
		b := newPair(t, class)
		for n := range b.many() {
			b.only(n)
			b.changesNothing("Close with one taken", func() {
				if b.p.Close(b.r) {
					b.Fatalf("class %d, %d taken: Close: true", class, n)
				}
			})
			b.tellsSame()
		}
		b.keep()
		if !b.p.Close(b.r) {
			t.Errorf("class %d: Close: false", class)
		}
		b.tellsClosed()
	}
}

func TestCloseInEveryState(t *testing.T) {
	everyState(t, func(b *pair) {
		if len(b.taken) == 0 {
			if !b.p.Close(b.r) {
				b.Error("Close: false")
			}
			b.tellsClosed()
			return
		}
		b.changesNothing("Close with some taken", func() {
			if b.p.Close(b.r) {
				b.Error("Close: true")
			}
		})
	})
}

// Frames that are given back are others' then: no call behind a Close reads,
// writes, or gives them back.
func TestCallsBehindClose(t *testing.T) {
	everyState(t, func(b *pair) {
		b.keep()
		if !b.p.Close(b.r) {
			b.Fatal("Close: false")
		}
		for b.r.Count(api.Free) > 0 {
			n, _ := b.r.Take(api.Pool)
			b.r.Write(n, 0, pattern(4096, n))
		}
		touches, turns := b.r.Touches(), b.r.Turns()
		for range 2 {
			if n, ok := b.p.Take(b.r); n != 0 || ok {
				b.Errorf("Take: %d, %t", n, ok)
			}
			for _, n := range append(outside(b.many()), 0, 1, b.many()-1) {
				got, ok := b.p.Read(b.r, n, 0)
				more, there := b.p.Read(b.r, n, 1)
				if ok || there || len(got) > 0 || len(more) > 0 {
					b.Errorf("Read of %d", n)
				}
				if b.p.Has(n) || b.p.Give(b.r, n) || b.p.Write(b.r, n, nil) || b.p.Write(b.r, n, []byte{1}) {
					b.Errorf("Has, Give or Write of %d", n)
				}
			}
			b.tellsClosed()
			if !b.p.Close(b.r) {
				b.Error("Close again: false")
			}
			b.tellsClosed()
		}
		if b.r.Touches() != touches || b.r.Turns() != turns || b.r.Count(api.Pool) != 8 {
			b.Error("a call behind Close touches frames")
		}
		for n := range 8 {
			if got, _ := b.r.Read(n, 0, 4096); !bytes.Equal(got, pattern(4096, n)) {
				b.Errorf("frame %d has other bytes", n)
			}
		}
	})
}

func TestCloseGivesItsOwnFramesAlone(t *testing.T) {
	for _, class := range someClasses {
		r := newRAM(t, 16)
		first, second, third := pairIn(t, r, class), pairIn(t, r, 46), pairIn(t, r, class)
		second.takeAll(3)
		third.takeAll(4)
		if !first.p.Close(r) || second.p.Close(r) || third.p.Close(r) {
			t.Fatalf("class %d: Close", class)
		}
		second.tellsSame()
		third.tellsSame()
		for _, n := range first.row {
			if r.Owner(n) != api.Free {
				t.Errorf("class %d: frame %d is of %d", class, n, r.Owner(n))
			}
		}
		if got := r.Count(api.Pool); got != len(second.row)+len(third.row) {
			t.Errorf("class %d: %d frames are the Pool's", class, got)
		}
	}
}

func TestMakeBehindClose(t *testing.T) {
	r := newRAM(t, 8)
	for class := range 64 {
		b := pairIn(t, r, class)
		b.takeAll(class)
		b.tellsSame()
		b.keep()
		b.tellsSame()
		if !b.p.Close(r) || r.Count(api.Free) != 8 {
			t.Errorf("class %d: Free %d", class, r.Count(api.Free))
		}
	}
}

// Promise 17.3: List

func TestListOfANewZspage(t *testing.T) {
	for class := range 64 {
		b := newPair(t, class)
		l := b.list()
		slices.Sort(l)
		for n := range b.many() {
			if len(l) != b.many() || l[n] != n {
				t.Fatalf("class %d: List %v", class, l)
			}
		}
		b.tellsList()
	}
}

func TestListIsTheCallersOwn(t *testing.T) {
	b := newPair(t, 46)
	first, second := b.list(), b.list()
	want := slices.Clone(second)
	for at := range first {
		first[at] = 99
	}
	_ = append(first, 1)
	if !slices.Equal(second, want) {
		t.Errorf("two answers share memory: %v", second)
	}
	b.take()
	if !slices.Equal(second, want) {
		t.Errorf("an answer changed by a Take: %v", second)
	}
	b.tellsSame()
}

func TestListOfAllTaken(t *testing.T) {
	for _, class := range someClasses {
		b := newPair(t, class)
		b.takeAll(1)
		if l, ok := b.p.List(b.r); len(l) > 0 || !ok {
			t.Errorf("class %d: List %v, %t", class, l, ok)
		}
	}
}

// Who takes behind a List that was told follows the bytes: no number is told
// that isn't taken at last.
func TestListIsWhatIsTaken(t *testing.T) {
	everyState(t, func(b *pair) {
		l := b.list()
		var taken []int
		for range l {
			n, _ := b.take()
			taken = append(taken, n)
		}
		slices.Sort(l)
		slices.Sort(taken)
		if !slices.Equal(l, taken) {
			b.Errorf("%v were told, %v taken", l, taken)
		}
	})
}

// wrongLinks are numbers that the bytes of the free object at that place of the
// list may not tell.
func wrongLinks(b *pair, l []int, at int) []int {
	out := []int{b.many() + 1, b.many() + 2, 2*b.many() + 1, 129, 255, 256, 257, 4096, 4097, 32768, 65534, 65535}
	for n := range b.taken {
		out = append(out, n+1)
	}
	for other, n := range l {
		if other != at+1 {
			out = append(out, n+1)
		}
	}
	if at+1 < len(l) {
		out = append(out, 0)
	}
	slices.Sort(out)
	return out
}

// Whatever other number stands in the bytes of a free object, it leads to one
// that is taken, or isn't there, or to one twice, or to an end too soon.
func TestListOfBytesThatAreWrittenOver(t *testing.T) {
	everyState(t, func(b *pair) {
		l := b.list()
		for at, n := range l {
			was := b.link(n)
			for _, wrong := range wrongLinks(b, l, at) {
				b.setLink(n, wrong)
				if got, ok := b.p.List(b.r); len(got) > 0 || ok {
					b.Fatalf("%d behind %d: List %v, %t", wrong-1, n, got, ok)
				}
			}
			b.setLink(n, was)
			if got := b.list(); !slices.Equal(got, l) {
				b.Fatalf("List: %v, not %v", got, l)
			}
		}
		b.tellsSame()
	})
}

// The object to which such a number leads may lie in the row still: of three
// frames some bytes are left over behind the last object.
func TestListToWhatIsLeftOver(t *testing.T) {
	b := newPair(t, 46)
	last := b.list()[3]
	b.setLink(last, 5)
	if l, ok := b.p.List(b.r); len(l) > 0 || ok {
		t.Errorf("List: %v, %t", l, ok)
	}
	for n := range 300 {
		b.setLink(last, n)
		if l, ok := b.p.List(b.r); ok != (n == 0) || len(l) != 4 && ok {
			t.Errorf("%d at the end: List %v, %t", n, l, ok)
		}
	}
}

// The bytes of an object that is taken may lead on as if it were free: to all
// that are, or to one less, so that as many are told as there are.
func TestListThroughAnObjectThatIsTaken(t *testing.T) {
	for _, class := range []int{0, 2, 41, 46} {
		for taken := range plainObjects(class) {
			b := newPair(t, class)
			b.only(taken)
			l := b.list()
			for at := range l {
				for _, skip := range []int{0, 1} {
					was, behind := b.link(l[at]), 0
					if at+1+skip < len(l) {
						behind = l[at+1+skip] + 1
					}
					b.setLink(l[at], taken+1)
					b.write(taken, []byte{byte(behind), byte(behind / 256)})
					if got, ok := b.p.List(b.r); len(got) > 0 || ok {
						t.Fatalf("class %d, %d taken, behind %d: List %v, %t", class, taken, l[at], got, ok)
					}
					b.setLink(l[at], was)
				}
			}
			b.tellsSame()
		}
	}
}

// A list that leads round, and to all that are free, isn't one.
func TestListThatLeadsRound(t *testing.T) {
	everyState(t, func(b *pair) {
		l := b.list()
		if len(l) == 0 {
			return
		}
		b.setLink(l[len(l)-1], l[0]+1)
		if got, ok := b.p.List(b.r); len(got) > 0 || ok {
			b.Errorf("List: %v, %t", got, ok)
		}
		useAll(b)
	})
}

// useAll takes and gives objects of a zspage whose list is none, and fails if
// one is taken twice, or any call doesn't tell of objects what is so.
func useAll(b *pair) {
	b.Helper()
	for round := range 3 {
		for range b.free() + 2 {
			if n, ok := b.take(); ok {
				b.fill(n, round+n)
			}
			b.tellsCounts()
			b.p.List(b.r)
		}
		for n := range b.many() {
			b.read(n, b.size())
			if n%3 == round {
				b.give(n)
				b.p.List(b.r)
			}
		}
		b.tellsCounts()
	}
	b.keep()
	if !b.p.Close(b.r) || b.r.Count(api.Free) != 8 {
		b.Error("Close: false")
	}
}

// Each link of the list is written over by each kind of number that may not
// stand there, and then all objects are taken, and given back.
func TestTakeOfBytesThatAreWrittenOver(t *testing.T) {
	for _, class := range []int{0, 2, 31, 41, 46, 63} {
		for _, s := range states {
			for at := range 70 {
				for _, pick := range []int{0, 2, 5, 13, 21, 34} {
					b := newPair(t, class)
					s.lay(b)
					l := b.list()
					if at >= len(l) || at > 3 && at < len(l)-2 {
						break
					}
					wrong := wrongLinks(b, l, at)
					b.setLink(l[at], wrong[(pick*5+at)%len(wrong)])
					useAll(b)
				}
			}
		}
	}
}

// All links are written over at once.
func TestTakeOfBytesThatAreAllWrittenOver(t *testing.T) {
	for _, class := range someClasses {
		for _, link := range []int{0, 1, 2, 3, 5, 64, 65, 255, 256, 65535} {
			for _, s := range states {
				b := newPair(t, class)
				s.lay(b)
				for n := range b.many() {
					if !b.taken[n] {
						b.setLink(n, link)
					}
				}
				useAll(b)
			}
		}
	}
}

func TestGiveOfBytesThatAreWrittenOver(t *testing.T) {
	for _, link := range []int{0, 1, 3, 5, 255, 65535} {
		b := newPair(t, 46)
		b.takeAll(1)
		b.keep(2)
		for n := range 4 {
			if n != 2 {
				b.setLink(n, link)
			}
		}
		b.take()
		b.give(2)
		if l, ok := b.p.List(b.r); ok || len(l) > 0 {
			b.Errorf("List: %v, %t", l, ok)
		}
		useAll(b)
	}
}
