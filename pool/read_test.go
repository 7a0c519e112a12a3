package pool_test

import (
	"bytes"
	"slices"
	"testing"

	"gunny/api"
	"gunny/handle"
)

// Promise 20.1: Read, Free

// notInUse are handles that can't be, and such that aren't in use.
func notInUse(b *pair) []int {
	out := noHandles()
	for h := 1; h <= 512; h++ {
		if _, used := b.objects[h]; !used {
			out = append(out, h)
		}
	}
	return out
}

func refusedRead(b *pair, h int) {
	b.Helper()
	if got, ok := b.p.Read(h); len(got) != 0 || ok {
		b.Fatalf("Read(%d): %d bytes, %t", h, len(got), ok)
	}
}

func refusedFree(b *pair, h int) {
	b.Helper()
	if b.p.Free(h) {
		b.Fatalf("Free(%d): true", h)
	}
}

func TestReadOfAll(t *testing.T) {
	everyFilling(t, func(b *pair) {
		for h, o := range b.objects {
			got, ok := b.p.Read(h)
			if !ok || !bytes.Equal(got, o.bytes) {
				b.Fatalf("Read(%d): %d bytes, %t, or other ones", h, len(got), ok)
			}
		}
	})
}

func TestReadOfNone(t *testing.T) {
	everyFilling(t, func(b *pair) {
		b.changesNothing("Read", func() {
			b.Helper()
			for _, h := range notInUse(b) {
				refusedRead(b, h)
			}
		})
	})
}

func TestReadIsNewMemory(t *testing.T) {
	everyFilling(t, func(b *pair) {
		for h := range b.objects {
			got, _ := b.p.Read(h)
			other, _ := b.p.Read(h)
			clear(got)
			if !bytes.Equal(other, b.objects[h].bytes) {
				b.Fatalf("Read(%d): two of them share memory", h)
			}
			b.read(h)
		}
	})
}

// What was read stays as it was, whatever is done then.
func TestReadIsNotChangedByLaterCalls(t *testing.T) {
	b := newPair(t, 8)
	b.lay(15, 1, 2)
	got, _ := b.p.Read(1)
	want := slices.Clone(got)
	b.shift(1)
	b.free(1)
	b.put(1024, 50)
	b.put(1024, 51)
	if len(got) == 0 || !bytes.Equal(got, want) {
		t.Error("what was read is changed")
	}
}

func TestFreeOfNone(t *testing.T) {
	everyFilling(t, func(b *pair) {
		b.changesNothing("Free", func() {
			b.Helper()
			for _, h := range notInUse(b) {
				refusedFree(b, h)
			}
		})
	})
}

func TestFreeOfEach(t *testing.T) {
	for _, f := range fillings {
		b := newPair(t, f.frames)
		f.lay(b)
		for h := 512; h >= 1; h-- {
			if !b.free(h) {
				continue
			}
			refusedFree(b, h)
			refusedRead(b, h)
			if h%16 == 1 {
				b.tellsSame()
			}
		}
		b.tellsSame()
		if b.p.Len() != 0 || len(b.p.Sheets()) != 0 || len(b.r.Of(api.Pool)) != 0 {
			t.Errorf("%s: something is left", f.name)
		}
	}
}

// Ones that are in use are freed in an order of their own.
func TestFreeInAnyOrder(t *testing.T) {
	for seed := range 8 {
		b := newPair(t, 24)
		b.lay(15, 3, 4, 2)
		b.lay(46, 4, 1)
		b.lay(0, 20)
		for at := range 512 {
			if b.free(1 + (at*(2*seed+1)*5+seed)%512) {
				b.tellsCounts()
			}
		}
		if b.tellsSame(); b.p.Len() != 0 {
			t.Errorf("%d are left", b.p.Len())
		}
	}
}

func TestFreeTwice(t *testing.T) {
	b := newPair(t, 8)
	b.lay(15, 3)
	if !b.p.Free(2) || b.p.Free(2) {
		t.Fatal("Free(2): not true, false")
	}
	if p, ok := b.p.Where(2); p != (handle.Place{}) || ok {
		t.Errorf("Where(2): %v, %t", p, ok)
	}
	refusedRead(b, 2)
	if h, err := b.p.Alloc(pattern(1024, 60)); h != 2 || err != api.OK {
		t.Errorf("Alloc: %d, %v", h, err)
	}
	if !b.p.Free(2) || b.p.Free(2) {
		t.Error("Free(2), when it was in use anew: not true, false")
	}
}

// A zspage is closed by its last object going, not ahead, and its frames are
// Free at once.
func TestFreeClosesAZspageAtOnce(t *testing.T) {
	for class := range 64 {
		b := newPair(t, 16)
		b.put(64, 99)
		b.lay(62, 1)
		if class == 0 {
			b.lay(0, 63)
		}
		ahead := b.r.Count(api.Free)
		var handles []int
		for n := range plainMany(class) {
			if class != 62 || n > 0 {
				handles = append(handles, b.put(plainSize(class), n))
			}
		}
		behind := ahead - b.r.Count(api.Free)
		for at, h := range handles {
			want := ahead - behind
			if at == len(handles)-1 {
				want = ahead
			}
			b.free(h)
			if got := b.r.Count(api.Free); got != want {
				t.Fatalf("class %d, of which %d are freed: %d are Free, not %d", class, at+1, got, want)
			}
		}
		b.tellsSame()
	}
}

// The frames that are given back may be others', whose bytes the pool leaves.
func TestFreedFramesAreOthers(t *testing.T) {
	b := newPair(t, 8)
	b.lay(46, 1)
	b.put(64, 1)
	b.others(0)
	b.free(1)
	row := b.r.Of(api.Free)
	if len(row) != 3 {
		t.Fatalf("%v are Free", row)
	}
	for range 3 {
		n, _ := b.r.Take(api.Table)
		b.r.Write(n, 0, pattern(4096, n))
	}
	b.put(40, 2)
	b.shift(2)
	b.free(2)
	for _, n := range row {
		if got, _ := b.r.Read(n, 0, 4096); !bytes.Equal(got, pattern(4096, n)) {
			t.Errorf("frame %d has other bytes", n)
		}
	}
	b.tellsSame()
}
