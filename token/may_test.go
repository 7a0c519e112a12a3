package token_test

import (
	"bytes"
	"math"
	"testing"

	"gunny/token"
)

// Promise 11.1, May and Size.

// isToken fails if t isn't a token that stands for so many bytes.
func isToken(t *testing.T, tok token.Token, size int) {
	t.Helper()
	if !token.May(tok) || token.Size(tok) != size {
		t.Errorf("%v: May %t, Size %d, not %d", tok, token.May(tok), token.Size(tok), size)
	}
}

// isNone fails if t is a token.
func isNone(t *testing.T, tok token.Token) {
	t.Helper()
	if token.May(tok) || token.Size(tok) != 0 {
		t.Errorf("%v: May %t, Size %d", tok, token.May(tok), token.Size(tok))
	}
}

func TestConstants(t *testing.T) {
	if token.MostLit != 128 || token.LeastLen != 3 || token.MostLen != 130 || token.MostDist != 4095 {
		t.Errorf("%d, %d, %d, %d", token.MostLit, token.LeastLen, token.MostLen, token.MostDist)
	}
}

func TestMayOfTheExample(t *testing.T) {
	isToken(t, token.Token{Lit: []byte("ab")}, 2)
	isToken(t, dup(4, 2), 4)
}

func TestMayOfBytes(t *testing.T) {
	for _, many := range []int{1, 2, 3, 127, 128} {
		isToken(t, lit(many, 1), many)
	}
	for _, many := range []int{129, 130, 131, 255, 256, 257, 384, 4096, 65536, 65537} {
		isNone(t, lit(many, 1))
	}
	for many := range 300 {
		if many >= 1 && many <= 128 {
			isToken(t, lit(many, 9), many)
		} else {
			isNone(t, lit(many, 9))
		}
	}
}

// What the bytes are doesn't matter.
func TestMayOfBytesOfAllKinds(t *testing.T) {
	for b := range 256 {
		for _, many := range []int{1, 3, 128} {
			isToken(t, token.Token{Lit: bytes.Repeat([]byte{byte(b)}, many)}, many)
		}
		isNone(t, token.Token{Lit: bytes.Repeat([]byte{byte(b)}, 129)})
	}
}

// Nothing is no token: neither nil nor empty bytes.
func TestMayOfNothing(t *testing.T) {
	isNone(t, token.Token{})
	isNone(t, token.Token{Lit: []byte{}})
	isNone(t, token.Token{Lit: make([]byte, 0, 128)})
}

// With no bytes, nil or empty ones, it is a copy.
func TestMayOfCopies(t *testing.T) {
	for _, empty := range [][]byte{nil, {}, make([]byte, 0, 128), pattern(200, 1)[:0]} {
		for _, long := range someLens {
			for _, dist := range someDists {
				isToken(t, token.Token{Lit: empty, Len: long, Dist: dist}, long)
			}
			for _, dist := range wrongDists {
				isNone(t, token.Token{Lit: empty, Len: long, Dist: dist})
			}
		}
		for _, long := range wrongLens {
			for _, dist := range someDists {
				isNone(t, token.Token{Lit: empty, Len: long, Dist: dist})
			}
			for _, dist := range wrongDists {
				isNone(t, token.Token{Lit: empty, Len: long, Dist: dist})
			}
		}
	}
}

// Edges that the chapter names, written out.
func TestMayAtTheEdges(t *testing.T) {
	rows := []struct {
		long, dist int
		may        bool
	}{
		{2, 1, false}, {3, 1, true}, {4, 1, true}, {129, 1, true}, {130, 1, true}, {131, 1, false},
		{3, 0, false}, {3, 2, true}, {3, 255, true}, {3, 256, true}, {3, 4094, true}, {3, 4095, true}, {3, 4096, false},
		{130, 0, false}, {130, 4095, true}, {130, 4096, false}, {131, 4095, false}, {131, 4096, false},
		{2, 0, false}, {2, 4096, false}, {0, 0, false}, {0, 1, false}, {3, -1, false}, {-3, 1, false}, {-3, -1, false},
		{math.MinInt, 1, false}, {math.MaxInt, 1, false}, {3, math.MinInt, false}, {3, math.MaxInt, false},
		{math.MaxInt, math.MaxInt, false}, {math.MinInt, math.MinInt, false},
	}
	for _, row := range rows {
		if row.may {
			isToken(t, dup(row.long, row.dist), row.long)
		} else {
			isNone(t, dup(row.long, row.dist))
		}
	}
}

func TestMayOfEveryCopy(t *testing.T) {
	for long := -3; long <= 140; long++ {
		for dist := -3; dist <= 4110; dist++ {
			want := 0
			if long >= 3 && long <= 130 && dist >= 1 && dist <= 4095 {
				want = long
			}
			tok := dup(long, dist)
			if token.May(tok) != (want > 0) || token.Size(tok) != want {
				t.Fatalf("%v: May %t, Size %d", tok, token.May(tok), token.Size(tok))
			}
		}
	}
}

// Bytes with a Len, or a Dist, beside them are no token, though each alone
// would be one.
func TestMayOfBytesWithMore(t *testing.T) {
	numbers := append(append([]int{1, 2, 3, 4, 127, 128, 129, 130}, wrongLens...), wrongDists...)
	for _, many := range []int{1, 2, 3, 127, 128, 129} {
		for _, n := range numbers {
			if n == 0 {
				continue
			}
			isNone(t, token.Token{Lit: pattern(many, 1), Len: n})
			isNone(t, token.Token{Lit: pattern(many, 1), Dist: n})
			isNone(t, token.Token{Lit: pattern(many, 1), Len: n, Dist: n})
			isNone(t, token.Token{Lit: pattern(many, 1), Len: 3, Dist: n})
			isNone(t, token.Token{Lit: pattern(many, 1), Len: n, Dist: 1})
		}
		isNone(t, token.Token{Lit: pattern(many, 1), Len: many})
		isNone(t, token.Token{Lit: pattern(many, 1), Len: many, Dist: 1})
	}
}

// How many bytes there is room for behind the length doesn't matter.
func TestMayKeepsToTheLength(t *testing.T) {
	room := pattern(4096, 3)
	isToken(t, token.Token{Lit: room[:128]}, 128)
	isToken(t, token.Token{Lit: room[:1]}, 1)
	isToken(t, token.Token{Lit: room[:0], Len: 3, Dist: 1}, 3)
	isNone(t, token.Token{Lit: room[:129]})
	isNone(t, token.Token{Lit: room[:0]})
	if !bytes.Equal(room, pattern(4096, 3)) {
		t.Error("what was handed in has changed")
	}
}

func TestSizeOfWhatMayBeAndWhatMayNot(t *testing.T) {
	for _, tok := range someTokens() {
		isToken(t, tok, plainSize(tok))
	}
	for _, tok := range noTokens() {
		isNone(t, tok)
	}
}
