package token_test

import (
	"bytes"
	"math"
	"slices"
	"testing"

	"gunny/api"
	"gunny/token"
)

// Promise 11.2, Take.

// tells fails if the token at a place isn't the one wanted, or ends elsewhere.
func tells(t *testing.T, b []byte, at int, want token.Token, end int) {
	t.Helper()
	if got, gotEnd, err := takes(t, b, at); err != api.OK || gotEnd != end || !equal(got, want) {
		t.Errorf("Take(%d, %d): %v, %d, %v, not %v, %d", b, at, got, gotEnd, err, want, end)
	}
}

// refuses fails if a token is told, or another error, or anything beside it.
func refuses(t *testing.T, b []byte, at int, want api.Errno) {
	t.Helper()
	got, end, err := takes(t, b, at)
	if err != want || end != 0 || got.Len != 0 || got.Dist != 0 || len(got.Lit) != 0 {
		t.Errorf("Take(%d, %d): %v, %d, %v, not %v", b, at, got, end, err, want)
	}
}

func TestTakeOfTheExample(t *testing.T) {
	b := []byte{1, 97, 98, 129, 2, 0}
	tells(t, b, 0, token.Token{Lit: []byte("ab")}, 3)
	tells(t, b, 3, dup(4, 2), 6)
	for _, at := range []int{1, 2, 4, 5, 6, 7, -1} {
		refuses(t, b, at, api.ErrEnd)
	}
	tells(t, append(b, 7), 5, token.Token{Lit: []byte{7}}, 7)
}

// surrounded is bytes that stand behind some and ahead of others.
func surrounded(ahead int, b []byte, behind int) []byte {
	return slices.Concat(pattern(ahead, 60), b, pattern(behind, 70))
}

// Of each first byte below 128: with all its bytes there, with more behind, with
// fewer, and with none.
func TestTakeOfEveryFirstByteOfBytes(t *testing.T) {
	for first := range 128 {
		want := lit(first+1, first)
		whole := append([]byte{byte(first)}, want.Lit...)
		for _, ahead := range []int{0, 1, 2, 300} {
			for _, behind := range []int{0, 1, 200} {
				tells(t, surrounded(ahead, whole, behind), ahead, want, ahead+first+2)
			}
			for there := 1; there < len(whole); there++ {
				refuses(t, surrounded(ahead, whole[:there], 0), ahead, api.ErrEnd)
			}
		}
	}
}

// Of each first byte from 128 on likewise.
func TestTakeOfEveryFirstByteOfCopies(t *testing.T) {
	for first := 128; first < 256; first++ {
		for _, dist := range someDists {
			whole := []byte{byte(first), byte(dist), byte(dist >> 8)}
			for _, ahead := range []int{0, 1, 2, 300} {
				for _, behind := range []int{0, 1, 200} {
					tells(t, surrounded(ahead, whole, behind), ahead, dup(first-125, dist), ahead+3)
				}
				refuses(t, surrounded(ahead, whole[:2], 0), ahead, api.ErrEnd)
				refuses(t, surrounded(ahead, whole[:1], 0), ahead, api.ErrEnd)
			}
		}
	}
}

// Copies at the edges, written out.
func TestTakeOfCopies(t *testing.T) {
	rows := []struct {
		b    []byte
		want token.Token
	}{
		{[]byte{128, 1, 0}, dup(3, 1)},
		{[]byte{129, 0, 1}, dup(4, 256)},
		{[]byte{130, 255, 0}, dup(5, 255)},
		{[]byte{253, 1, 1}, dup(128, 257)},
		{[]byte{254, 254, 15}, dup(129, 4094)},
		{[]byte{255, 255, 15}, dup(130, 4095)},
	}
	for _, row := range rows {
		tells(t, row.b, 0, row.want, 3)
	}
}

func TestTakeOfEveryDist(t *testing.T) {
	for _, first := range []byte{128, 129, 200, 255} {
		for dist := range 65536 {
			b := []byte{first, byte(dist), byte(dist / 256)}
			got, end, err := token.Take(b, 0)
			if dist >= 1 && dist <= 4095 {
				if !equal(got, dup(int(first)-125, dist)) || end != 3 || err != api.OK {
					t.Fatalf("%d: %v, %d, %v", b, got, end, err)
				}
			} else if !equal(got, token.Token{}) || end != 0 || err != api.ErrForm {
				t.Fatalf("%d: %v, %d, %v", b, got, end, err)
			}
		}
	}
}

// A Dist that may not be is told only where all of the token is there.
func TestTakeErrorsInTheirOrder(t *testing.T) {
	for _, dist := range []int{0, 4096, 4097, 8191, 16384, 65280, 65535} {
		for first := 128; first < 256; first++ {
			whole := []byte{byte(first), byte(dist), byte(dist >> 8)}
			for _, ahead := range []int{0, 1, 40} {
				refuses(t, surrounded(ahead, whole, 0), ahead, api.ErrForm)
				refuses(t, surrounded(ahead, whole, 9), ahead, api.ErrForm)
				refuses(t, surrounded(ahead, whole[:2], 0), ahead, api.ErrEnd)
				refuses(t, surrounded(ahead, whole[:1], 0), ahead, api.ErrEnd)
			}
		}
	}
}

// Of what would be a token everywhere nothing is told outside.
func TestTakeWhereNoByteIs(t *testing.T) {
	lists := [][]byte{nil, {}, {0}, {0, 7}, {128, 1, 0}, {1, 97, 98, 129, 2, 0}, bytes.Repeat([]byte{0}, 300), bytes.Repeat([]byte{129}, 300), bytes.Repeat([]byte{1}, 4096)}
	for _, b := range lists {
		for _, at := range farPlaces {
			refuses(t, b, at, api.ErrEnd)
		}
		for by := range 5 {
			refuses(t, b, len(b)+by, api.ErrEnd)
			refuses(t, b, -1-by, api.ErrEnd)
		}
		refuses(t, b, -len(b)-1, api.ErrEnd)
		refuses(t, b, 2*len(b)+1, api.ErrEnd)
		refuses(t, b, math.MaxInt-len(b), api.ErrEnd)
		refuses(t, b, math.MinInt+len(b), api.ErrEnd)
		if len(b) > 0 {
			refuses(t, b, -len(b), api.ErrEnd)
		}
	}
}

// Places at which only a little is left: as many as a token needs, and fewer.
func TestTakeNearTheEnd(t *testing.T) {
	for _, b := range [][]byte{bytes.Repeat([]byte{1}, 50), bytes.Repeat([]byte{129, 2, 0}, 20), bytes.Repeat([]byte{127}, 300), bytes.Repeat([]byte{0}, 9)} {
		for at := range len(b) + 3 {
			takes(t, b, at)
		}
	}
	tells(t, []byte{9, 0, 5}, 1, token.Token{Lit: []byte{5}}, 3)
	refuses(t, []byte{9, 0}, 1, api.ErrEnd)
	refuses(t, []byte{9, 200, 1}, 1, api.ErrEnd)
	refuses(t, []byte{9, 200}, 1, api.ErrEnd)
	tells(t, []byte{9, 200, 1, 0}, 1, dup(75, 1), 4)
}

// Bytes behind the length, which would be the rest of the token, aren't read.
func TestTakeKeepsToTheLength(t *testing.T) {
	for _, whole := range [][]byte{{1, 97, 98, 3}, {0, 97, 98, 3}, {129, 2, 0, 3}, plainPut(lit(128, 1)), plainPut(dup(130, 4095))} {
		was := bytes.Clone(whole)
		_, end, _ := token.Take(whole, 0)
		for there := range end {
			refuses(t, whole[:there], 0, api.ErrEnd)
		}
		tok, _, _ := takes(t, whole[:end], 0)
		clear(tok.Lit[:cap(tok.Lit)])
		if !bytes.Equal(whole, was) {
			t.Errorf("%d: bytes have changed to %d", was, whole)
		}
	}
}

// The token's bytes are new memory: neither the ones it was taken from, nor
// those of a token that was told ahead.
func TestTakeIsNewMemory(t *testing.T) {
	for _, many := range []int{1, 2, 127, 128} {
		b := surrounded(3, plainPut(lit(many, 8)), 300)
		was := bytes.Clone(b)
		first, _, _ := token.Take(b, 3)
		second, _, _ := token.Take(b, 3)
		third, _, _ := token.Take(b, 3)
		whole := first.Lit[:cap(first.Lit)]
		for i := range whole {
			whole[i] ^= 255
		}
		_ = append(third.Lit, 1, 2, 3)
		if !bytes.Equal(b, was) {
			t.Errorf("%d bytes: the token shares them with what it was taken from", many)
		}
		if !equal(second, lit(many, 8)) {
			t.Errorf("%d bytes: two answers share memory", many)
		}
		clear(b)
		if !equal(second, lit(many, 8)) {
			t.Errorf("%d bytes: what was handed in is kept", many)
		}
	}
}

// Two tokens of one list of bytes share nothing either.
func TestTakeOfNeighboursIsNewMemory(t *testing.T) {
	b := plainPut(lit(3, 1), lit(4, 2))
	first, end, _ := token.Take(b, 0)
	second, _, _ := token.Take(b, end)
	first.Lit = append(first.Lit, 9, 9, 9, 9, 9)
	clear(first.Lit)
	if !equal(second, lit(4, 2)) || !bytes.Equal(b, plainPut(lit(3, 1), lit(4, 2))) {
		t.Errorf("%v, of %d", second, b)
	}
}

// What is told hangs on the bytes alone, not on what was told ahead.
func TestTakeKeepsNothing(t *testing.T) {
	b := []byte{1, 97, 98, 129, 2, 0}
	for range 3 {
		tells(t, b, 3, dup(4, 2), 6)
		refuses(t, b, 6, api.ErrEnd)
		b[5] = 16
		refuses(t, b, 3, api.ErrForm)
		b[5] = 0
		tells(t, b, 0, token.Token{Lit: []byte("ab")}, 3)
	}
}

// Bytes that look like chance, always the same ones, at every place in them.
func TestTakeOfManyBytes(t *testing.T) {
	next := steps(1)
	for range 400 {
		b := make([]byte, next(400))
		most := 1 + next(256)
		for i := range b {
			b[i] = byte(next(most))
		}
		for at := -2; at < len(b)+3; at++ {
			takes(t, b, at)
		}
	}
}
