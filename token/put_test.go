package token_test

import (
	"bytes"
	"slices"
	"testing"

	"gunny/token"
)

// Promise 11.1, Put.

// puts fails if the bytes of these tokens aren't those wanted.
func puts(t *testing.T, want []byte, ts ...token.Token) {
	t.Helper()
	if got, ok := token.Put(ts...); !ok || !bytes.Equal(got, want) {
		t.Errorf("Put of %v: %d, %t, not %d", ts, got, ok, want)
	}
}

// putsNone fails if these tokens have bytes.
func putsNone(t *testing.T, ts ...token.Token) {
	t.Helper()
	if got, ok := token.Put(ts...); ok || len(got) != 0 {
		t.Errorf("Put of %v: %d, %t", ts, got, ok)
	}
}

func TestPutOfTheExample(t *testing.T) {
	puts(t, []byte{1, 97, 98, 129, 2, 0}, token.Token{Lit: []byte("ab")}, dup(4, 2))
	puts(t, []byte{1, 97, 98}, token.Token{Lit: []byte("ab")})
	puts(t, []byte{129, 2, 0}, dup(4, 2))
	puts(t, []byte{129, 2, 0, 1, 97, 98}, dup(4, 2), token.Token{Lit: []byte("ab")})
}

func TestPutOfNoToken(t *testing.T) {
	puts(t, nil)
	puts(t, nil, nil...)
	puts(t, nil, []token.Token{}...)
	puts(t, nil, someTokens()[:0]...)
}

func TestPutOfBytes(t *testing.T) {
	for many := 1; many <= 128; many++ {
		got, ok := token.Put(lit(many, many))
		if !ok || len(got) != many+1 || int(got[0]) != many-1 || !bytes.Equal(got[1:], pattern(many, many)) {
			t.Errorf("%d bytes: %d, %t", many, got, ok)
		}
	}
	for b := range 256 {
		puts(t, []byte{0, byte(b)}, token.Token{Lit: []byte{byte(b)}})
	}
}

func TestPutOfCopies(t *testing.T) {
	rows := []struct {
		long, dist int
		want       []byte
	}{
		{3, 1, []byte{128, 1, 0}},
		{4, 2, []byte{129, 2, 0}},
		{5, 255, []byte{130, 255, 0}},
		{6, 256, []byte{131, 0, 1}},
		{7, 257, []byte{132, 1, 1}},
		{127, 511, []byte{252, 255, 1}},
		{128, 512, []byte{253, 0, 2}},
		{129, 4094, []byte{254, 254, 15}},
		{130, 4095, []byte{255, 255, 15}},
		{130, 1, []byte{255, 1, 0}},
		{3, 4095, []byte{128, 255, 15}},
	}
	for _, row := range rows {
		puts(t, row.want, dup(row.long, row.dist))
		puts(t, row.want, token.Token{Lit: []byte{}, Len: row.long, Dist: row.dist})
	}
}

func TestPutOfEveryCopy(t *testing.T) {
	for long := 3; long <= 130; long++ {
		for dist := 1; dist <= 4095; dist++ {
			if long > 4 && long < 129 && dist%97 != long%97 {
				continue
			}
			got, ok := token.Put(dup(long, dist))
			if !ok || len(got) != 3 || int(got[0]) != 128+long-3 || int(got[1])+256*int(got[2]) != dist {
				t.Fatalf("Len %d, Dist %d: %d, %t", long, dist, got, ok)
			}
		}
	}
}

// All stand one behind the other, however many there are.
func TestPutOfSeveral(t *testing.T) {
	all := someTokens()
	puts(t, plainPut(all...), all...)
	for many := range 20 {
		puts(t, plainPut(all[120:120+many]...), all[120:120+many]...)
	}
	for _, first := range all {
		second := all[len(first.Lit)*7%len(all)]
		puts(t, plainPut(first, second), first, second)
		puts(t, plainPut(second, first, first), second, first, first)
	}
	puts(t, bytes.Repeat([]byte{255, 255, 15}, 2000), slices.Repeat([]token.Token{dup(130, 4095)}, 2000)...)
	puts(t, bytes.Repeat([]byte{0, 9}, 4096), slices.Repeat([]token.Token{{Lit: []byte{9}}}, 4096)...)
}

// A copy's Dist isn't held against what stands ahead of it.
func TestPutOfCopiesWithNothingAhead(t *testing.T) {
	puts(t, []byte{255, 255, 15, 0, 1, 128, 2, 0}, dup(130, 4095), token.Token{Lit: []byte{1}}, dup(3, 2))
}

func TestPutWithOneThatIsNone(t *testing.T) {
	for _, none := range noTokens() {
		putsNone(t, none)
		putsNone(t, none, none)
		for _, good := range []token.Token{lit(1, 5), lit(128, 5), dup(3, 1), dup(130, 4095)} {
			putsNone(t, none, good)
			putsNone(t, good, none)
			putsNone(t, none, good, good)
			putsNone(t, good, none, good)
			putsNone(t, good, good, none)
			putsNone(t, none, good, none)
		}
	}
}

func TestPutWithOneThatIsNoneAmongMany(t *testing.T) {
	all := someTokens()
	for _, at := range []int{0, 1, len(all) / 2, len(all) - 2, len(all) - 1} {
		was := all[at]
		all[at] = token.Token{}
		putsNone(t, all...)
		all[at] = was
	}
	puts(t, plainPut(all...), all...)
}

// What is handed in is neither changed nor kept, and nothing behind its length is read.
func TestPutNeitherChangesNorKeeps(t *testing.T) {
	room := pattern(200, 4)
	ts := []token.Token{{Lit: room[:5]}, dup(9, 300), {Lit: room[72:]}, {}}
	want := plainPut(ts[:3]...)
	first, ok := token.Put(ts[:3]...)
	second, _ := token.Put(ts[:3]...)
	if !ok || !bytes.Equal(first, want) || !bytes.Equal(second, want) {
		t.Fatalf("%d, then %d, not %d", first, second, want)
	}
	if !bytes.Equal(room, pattern(200, 4)) || !equal(ts[1], dup(9, 300)) || !equal(ts[3], token.Token{}) {
		t.Error("what was handed in has changed")
	}
	whole := first[:cap(first)]
	for i := range whole {
		whole[i] = 77
	}
	if !bytes.Equal(room, pattern(200, 4)) || !bytes.Equal(second, want) {
		t.Error("what was told isn't new memory")
	}
	clear(room)
	clear(ts)
	if !bytes.Equal(second, want) {
		t.Error("what was handed in is kept")
	}
}

// Bytes of one token alone are new memory too.
func TestPutOfOneIsNewMemory(t *testing.T) {
	room := pattern(130, 1)
	got, _ := token.Put(token.Token{Lit: room[1:129]})
	clear(got[:cap(got)])
	if !bytes.Equal(room, pattern(130, 1)) {
		t.Error("what was told is what was handed in")
	}
}

// Tokens that are put once more have the same bytes, whatever was put between.
func TestPutKeepsNothing(t *testing.T) {
	for range 3 {
		puts(t, []byte{1, 97, 98}, token.Token{Lit: []byte("ab")})
		putsNone(t, lit(3, 1), token.Token{})
		puts(t, []byte{128, 1, 0}, dup(3, 1))
		puts(t, nil)
	}
}
