package ram_test

import (
	"bytes"
	"math"
	"testing"

	"gunny/api"
)

// Promise 6.2.

func TestWordEdges(t *testing.T) {
	b := newPair(t, 8)
	fillAll(b)
	for _, i := range []int{0, 1, 2, 255, 256, 510, 511} {
		if !b.word(6, i) {
			t.Errorf("Word(6, %d): false", i)
		}
	}
	b.tellsSame()
}

func TestWordOfWhatIsNotThere(t *testing.T) {
	everyState(t, func(b *pair) {
		for n := range b.many() {
			for _, i := range noWords {
				if w, ok := b.r.Word(n, i); w != 0 || ok {
					b.Errorf("Word(%d, %d): %x, %t", n, i, w, ok)
				}
				if b.r.SetWord(n, i, math.MaxUint64) {
					b.Errorf("SetWord(%d, %d): true", n, i)
				}
			}
		}
		b.isAs()
	})
}

// The lowest byte of a word stands first.
func TestWordAgainstItsBytes(t *testing.T) {
	b := newPair(t, 8)
	n := b.take(api.Table)
	for _, i := range []int{0, 1, 300, 511} {
		if !b.r.Write(n, 8*i, []byte{1, 2, 3, 4, 5, 6, 7, 0xf8}) {
			t.Fatalf("Write of word %d: false", i)
		}
		if w, ok := b.r.Word(n, i); w != 0xf807060504030201 || !ok {
			t.Errorf("Word(%d, %d): %x, %t", n, i, w, ok)
		}
		if !b.r.SetWord(n, i, 0x8899aabbccddeeff) {
			t.Errorf("SetWord(%d, %d): false", n, i)
		}
		want := []byte{0xff, 0xee, 0xdd, 0xcc, 0xbb, 0xaa, 0x99, 0x88}
		if got, ok := b.r.Read(n, 8*i, 8); !bytes.Equal(got, want) || !ok {
			t.Errorf("the bytes of word %d: %x, %t", i, got, ok)
		}
		if w, ok := b.r.Word(n, i); w != 0x8899aabbccddeeff || !ok {
			t.Errorf("Word(%d, %d), set: %x, %t", n, i, w, ok)
		}
	}
}

func TestEveryByteOfAWord(t *testing.T) {
	b := newPair(t, 8)
	n := b.take(api.User)
	for at := range 4096 {
		x := byte(1 + at%255)
		b.r.Write(n, at, []byte{x})
		if w, ok := b.r.Word(n, at/8); w>>(at%8*8) != uint64(x) || !ok {
			t.Fatalf("byte %d written: Word(%d, %d): %x, %t", at, n, at/8, w, ok)
		}
	}
	for at := range 4096 {
		b.r.SetWord(n, at/8, 0x80<<(at%8*8))
		want := make([]byte, 8)
		want[at%8] = 0x80
		if got, ok := b.r.Read(n, at/8*8, 8); !bytes.Equal(got, want) || !ok {
			t.Fatalf("word %d set: %x, %t", at/8, got, ok)
		}
	}
}

func TestBytesAcrossTwoWords(t *testing.T) {
	b := newPair(t, 8)
	n := b.take(api.Pool)
	b.setWord(n, 2, 0x1111111111111111)
	b.setWord(n, 3, 0x2222222222222222)
	b.setWord(n, 4, 0x3333333333333333)
	b.write(n, 21, []byte{0xa1, 0xa2, 0xa3, 0xa4, 0xa5})
	for i, want := range []uint64{0x0, 0x0, 0xa3a2a11111111111, 0x222222222222a5a4, 0x3333333333333333, 0x0} {
		if w, ok := b.r.Word(n, i); w != want || !ok {
			t.Errorf("Word(%d, %d): %x, %t, not %x", n, i, w, ok, want)
		}
		b.p.touches++
	}
	want := []byte{0xa3, 0xa4, 0xa5, 0x22, 0x22, 0x22, 0x22, 0x22, 0x22, 0x33}
	if got, ok := b.r.Read(n, 23, 10); !bytes.Equal(got, want) || !ok {
		t.Errorf("Read: %x, %t", got, ok)
	}
	b.p.touches++
	b.tellsSame()
}

func TestSetWordChangesOneWord(t *testing.T) {
	b := newPair(t, 8)
	fillAll(b)
	for at, i := range []int{0, 1, 7, 8, 255, 510, 511} {
		for _, n := range []int{0, 4, 7} {
			if !b.setWord(n, i, []uint64{0, 1, math.MaxUint64, 1 << 63, 0x0123456789abcdef}[at%5]) {
				t.Errorf("SetWord(%d, %d): false", n, i)
			}
			b.tellsSame()
		}
	}
}

func TestEveryWordIsItsOwn(t *testing.T) {
	for _, many := range manies {
		b := newPair(t, many)
		for range many {
			n := b.take(api.Table)
			for i := range 512 {
				b.setWord(n, i, uint64(n)<<40|uint64(i)<<8|1)
			}
		}
		for n := range many {
			for i := range 512 {
				if w, ok := b.r.Word(n, i); w != uint64(n)<<40|uint64(i)<<8|1 || !ok {
					t.Fatalf("of %d, Word(%d, %d): %x, %t", many, n, i, w, ok)
				}
				b.p.touches++
			}
		}
		b.tellsSame()
	}
}

func TestTouches(t *testing.T) {
	b := newPair(t, 8)
	r := b.r
	rows := []struct {
		name string
		do   func()
		want int
	}{
		{"at first", func() {}, 0},
		{"of a Free frame", func() { r.Read(0, 0, 1); r.Write(0, 0, []byte{1}); r.Word(0, 0); r.SetWord(0, 0, 1) }, 0},
		{"Take", func() { r.Take(api.User) }, 0},
		{"Read", func() { r.Read(0, 0, 1) }, 1},
		{"Write", func() { r.Write(0, 0, []byte{1}) }, 2},
		{"Word", func() { r.Word(0, 0) }, 3},
		{"SetWord", func() { r.SetWord(0, 511, 9) }, 4},
		{"Read of all", func() { r.Read(0, 0, 4096) }, 5},
		{"Write of all", func() { r.Write(0, 0, make([]byte, 4096)) }, 6},
		{"Read of none", func() { r.Read(0, 4096, 0) }, 7},
		{"Write of none", func() { r.Write(0, 4096, nil) }, 8},
		{"Write of what stands there", func() { r.Write(0, 0, []byte{0}); r.SetWord(0, 0, 0) }, 10},
		{"Read of too much", func() { r.Read(0, 0, 4097); r.Read(0, 4095, 2); r.Read(0, 0, -1); r.Read(0, -1, 1) }, 10},
		{"Write of too much", func() { r.Write(0, 0, make([]byte, 4097)); r.Write(0, 4096, []byte{1}); r.Write(0, -1, nil) }, 10},
		{"no word", func() { r.Word(0, 512); r.Word(0, -1); r.SetWord(0, 512, 1); r.SetWord(0, -1, 1) }, 10},
		{"no frame", func() { r.Read(8, 0, 1); r.Write(-1, 0, []byte{1}); r.Word(8, 0); r.SetWord(-1, 0, 1) }, 10},
		{"asking", func() {
			r.Many()
			r.Owner(0)
			r.Count(0, 1)
			r.Of(1)
			r.Turns()
			r.Touches()
		}, 10},
		{"Take that is refused", func() { r.Take(api.Free); r.Take(4) }, 10},
		{"Give", func() { r.Give(0); r.Give(0) }, 10},
		{"of a frame that was given", func() { r.Read(0, 0, 1); r.Write(0, 0, nil); r.Word(0, 0); r.SetWord(0, 0, 0) }, 10},
		{"Take anew", func() { r.Take(api.Table) }, 10},
		{"Word once more", func() { r.Word(0, 0); r.Word(0, 0) }, 12},
	}
	for _, row := range rows {
		row.do()
		if got := r.Touches(); got != row.want {
			t.Fatalf("%s: %d, not %d", row.name, got, row.want)
		}
	}
	if r.Turns() != 3 {
		t.Errorf("Turns, with touches: %d", r.Turns())
	}
}
