package inner_test

import (
	"bytes"
	"math"
	"slices"
	"testing"

	"gunny/api"
)

// Promise 17.2: Take and Give

func TestTakeOfTheExample(t *testing.T) {
	b := newPair(t, 63)
	if n, ok := b.p.Take(b.r); n != 0 || !ok || b.p.Used() != 1 || !b.p.Has(0) {
		t.Errorf("Take: %d, %t, Used %d", n, ok, b.p.Used())
	}
	if n, ok := b.p.Take(b.r); n != 0 || ok || b.p.Used() != 1 {
		t.Errorf("Take of none: %d, %t, Used %d", n, ok, b.p.Used())
	}
}

func TestTakeOfAllObjects(t *testing.T) {
	for class := range 64 {
		b := newPair(t, class)
		for used := range b.many() {
			n, ok := b.take()
			if !ok || !b.p.Has(n) || b.p.Used() != used+1 {
				t.Fatalf("class %d: %d, %t, Has %t, Used %d", class, n, ok, b.p.Has(n), b.p.Used())
			}
			b.tellsCounts()
			b.tellsList()
		}
		b.changesNothing("Take of none", func() { b.take() })
		b.changesNothing("Take of none", func() { b.take() })
		b.tellsSame()
	}
}

func TestTakeOfAllThatAreFree(t *testing.T) {
	everyState(t, func(b *pair) {
		for range b.free() {
			b.take()
			b.tellsSame()
		}
		b.changesNothing("Take of none", func() { b.take() })
	})
}

func TestGiveOfAllThatAreTaken(t *testing.T) {
	everyState(t, func(b *pair) {
		for n := range b.many() {
			was := b.taken[n]
			if b.give(n) != was {
				b.Fatalf("Give(%d)", n)
			}
			b.tellsCounts()
			b.tellsList()
			b.changesNothing("Give again", func() { b.give(n) })
		}
		b.tellsSame()
	})
}

func TestGiveOfObjectsThatAreNotThere(t *testing.T) {
	everyState(t, func(b *pair) {
		b.changesNothing("Give of none", func() {
			for _, n := range outside(b.many()) {
				b.give(n)
			}
		})
	})
}

func TestGiveOfObjectsThatAreFree(t *testing.T) {
	everyState(t, func(b *pair) {
		b.changesNothing("Give of a free one", func() {
			for n := range b.many() {
				if !b.taken[n] {
					b.give(n)
				}
			}
		})
	})
}

// Of a zspage all of whose objects but one are taken, that one is taken.
func TestTakeBehindGive(t *testing.T) {
	for _, class := range someClasses {
		b := newPair(t, class)
		b.takeAll(7)
		for n := range b.many() {
			b.give(n)
			if l := b.list(); !slices.Equal(l, []int{n}) {
				t.Errorf("class %d: List %v", class, l)
			}
			if got, ok := b.take(); got != n || !ok {
				t.Errorf("class %d: Take %d, %t, not %d", class, got, ok, n)
			}
			b.tellsSame()
		}
	}
}

// What an object has behind its first two bytes stands there still, when it is
// given back and taken again.
func TestOnlyTheFirstTwoBytesAreLost(t *testing.T) {
	for _, class := range someClasses {
		b := newPair(t, class)
		b.takeAll(11)
		for n := range b.many() {
			b.give(n)
			b.take()
			got, _ := b.p.Read(b.r, n, b.size())
			if want := pattern(b.size(), 11+n); !bytes.Equal(got[2:], want[2:]) {
				t.Errorf("class %d: object %d has other bytes", class, n)
			}
		}
		b.tellsSame()
	}
}

// Promise 17.2: Read and Write

func TestReadAndWriteOfAFewBytes(t *testing.T) {
	b := newPair(t, 0)
	n, _ := b.p.Take(b.r)
	if !b.p.Write(b.r, n, []byte{7, 8, 9}) {
		t.Fatal("Write: false")
	}
	if got, ok := b.p.Read(b.r, n, 3); !bytes.Equal(got, []byte{7, 8, 9}) || !ok {
		t.Errorf("Read: %v, %t", got, ok)
	}
	if got, ok := b.p.Read(b.r, n, 1); !bytes.Equal(got, []byte{7}) || !ok {
		t.Errorf("Read of one: %v, %t", got, ok)
	}
	if got, ok := b.p.Read(b.r, n, 64); len(got) != 64 || got[1] != 8 || !ok {
		t.Errorf("Read of all: %v, %t", got, ok)
	}
	if got, ok := b.p.Read(b.r, n, 65); len(got) > 0 || ok {
		t.Errorf("Read of more: %v, %t", got, ok)
	}
	if b.p.Write(b.r, n, make([]byte, 65)) {
		t.Error("Write of more: true")
	}
}

// Objects stand in the row one behind the other, and lie across frames.
func TestWhereObjectsStand(t *testing.T) {
	b := newPair(t, 46)
	b.takeAll(0)
	for n, places := range [][][3]int{{{0, 0, 3008}}, {{0, 3008, 1088}, {1, 0, 1920}}, {{1, 1920, 2176}, {2, 0, 832}}, {{2, 832, 3008}}} {
		what := pattern(3008, 50+n)
		b.write(n, what)
		var got []byte
		for _, p := range places {
			part, _ := b.r.Read(b.row[p[0]], p[1], p[2])
			got = append(got, part...)
		}
		if !bytes.Equal(got, what) {
			t.Errorf("object %d stands elsewhere", n)
		}
	}
	if left, _ := b.r.Read(b.row[2], 3840, 256); !bytes.Equal(left, make([]byte, 256)) {
		t.Error("bytes behind the last object are written")
	}
	b.tellsSame()
}

func TestReadAndWriteOfAllSizes(t *testing.T) {
	for _, class := range []int{0, 2, 46} {
		b := newPair(t, class)
		b.takeAll(1)
		for many := range b.size() + 3 {
			n := many % b.many()
			b.write(n, pattern(many, many+3))
			b.read(n, many)
			b.read(n, b.size())
		}
		b.tellsSame()
	}
}

func TestReadAndWriteOfAllObjects(t *testing.T) {
	for class := range 64 {
		b := newPair(t, class)
		b.takeAll(3)
		for n := range b.many() {
			for _, many := range []int{0, 1, 2, 3, b.size() / 2, b.size() - 1, b.size()} {
				if !b.write(n, pattern(many, n+many)) || !b.read(n, many) {
					t.Errorf("class %d: %d bytes of object %d are refused", class, many, n)
				}
			}
		}
		b.tellsSame()
	}
}

func TestNoSuchNumberOfBytes(t *testing.T) {
	everyState(t, func(b *pair) {
		b.changesNothing("Read and Write of more", func() {
			for n := range b.many() {
				for _, many := range notMany(b.size()) {
					b.read(n, many)
					if many >= 0 && many < 10000 && b.write(n, make([]byte, many)) {
						b.Fatalf("Write(%d, %d bytes): true", n, many)
					}
				}
			}
		})
	})
}

func TestNoBytes(t *testing.T) {
	everyState(t, func(b *pair) {
		b.changesNothing("Read and Write of none", func() {
			for n := range b.many() {
				if b.read(n, 0) != b.taken[n] || b.write(n, nil) != b.taken[n] || b.write(n, []byte{}) != b.taken[n] {
					b.Fatalf("no bytes of %d", n)
				}
			}
		})
	})
}

func TestReadAndWriteOfObjectsThatAreNotTaken(t *testing.T) {
	everyState(t, func(b *pair) {
		ns := outside(b.many())
		for n := range b.many() {
			if !b.taken[n] {
				ns = append(ns, n)
			}
		}
		b.changesNothing("Read and Write of none that is taken", func() {
			for _, n := range ns {
				for _, many := range []int{0, 1, 2, 64, b.size(), b.size() + 1, -1, math.MinInt, math.MaxInt} {
					if b.read(n, many) {
						b.Fatalf("Read(%d, %d): true", n, many)
					}
				}
				if b.write(n, nil) || b.write(n, []byte{1, 2}) || b.write(n, make([]byte, b.size())) {
					b.Fatalf("Write(%d): true", n)
				}
			}
		})
	})
}

// Of no RAM there is nothing to be read, nor to be written.
func TestNoRAM(t *testing.T) {
	everyState(t, func(b *pair) {
		b.changesNothing("a call with no RAM", func() {
			if n, ok := b.p.Take(nil); n != 0 || ok {
				b.Errorf("Take(nil): %d, %t", n, ok)
			}
			for n := -1; n <= b.many(); n++ {
				if b.p.Give(nil, n) || b.p.Write(nil, n, []byte{1}) {
					b.Errorf("Give or Write of %d", n)
				}
				if got, ok := b.p.Read(nil, n, 1); len(got) > 0 || ok {
					b.Errorf("Read(nil, %d, 1): %v, %t", n, got, ok)
				}
				b.p.Read(nil, n, 0)
				b.p.Write(nil, n, nil)
			}
			if b.p.Close(nil) {
				b.Error("Close(nil)")
			}
			if l, ok := b.p.List(nil); len(l) > 0 || ok != (b.free() == 0) {
				b.Errorf("List(nil): %v, %t", l, ok)
			}
		})
	})
}

// Nor of a RAM in which these frames are Free.
func TestAnotherRAM(t *testing.T) {
	everyState(t, func(b *pair) {
		other := newRAM(t, 8)
		b.changesNothing("a call with another RAM", func() {
			if n, ok := b.p.Take(other); n != 0 || ok {
				b.Errorf("Take: %d, %t", n, ok)
			}
			for n := -1; n <= b.many(); n++ {
				if got, ok := b.p.Read(other, n, 1); len(got) > 0 || ok || b.p.Give(other, n) || b.p.Write(other, n, []byte{1}) {
					b.Errorf("Give, Read or Write of %d", n)
				}
			}
			if b.p.Close(other) {
				b.Error("Close")
			}
		})
		if other.Turns() != 0 || other.Touches() != 0 || other.Count(api.Free) != 8 {
			b.Error("the other RAM has changed")
		}
	})
}

func TestWhatIsWrittenStaysAndIsNotKept(t *testing.T) {
	b := newPair(t, 46)
	b.takeAll(1)
	whole := pattern(4096, 9)
	what := slices.Clone(whole)
	b.write(1, what[:3008])
	b.write(2, what[:100])
	if b.write(3, what[:3009]) {
		t.Error("Write of more: true")
	}
	if !bytes.Equal(what, whole) {
		t.Error("what was handed in is changed")
	}
	clear(what)
	b.tellsSame()
}

func TestBytesReadAreTheCallersOwn(t *testing.T) {
	b := newPair(t, 46)
	b.takeAll(1)
	for _, many := range []int{1, 2, 100, 1088, 1089, 3008} {
		first, _ := b.p.Read(b.r, 1, many)
		second, _ := b.p.Read(b.r, 1, many)
		want := slices.Clone(second)
		for i := range first {
			first[i]++
		}
		_ = append(first, 1, 2, 3)
		if !bytes.Equal(second, want) {
			t.Errorf("answers of %d bytes share memory", many)
		}
		b.tellsSame()
		b.write(1, pattern(many, 77+many))
		if !bytes.Equal(second, want) {
			t.Errorf("an answer of %d bytes changed by a Write", many)
		}
	}
}
