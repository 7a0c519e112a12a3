package token_test

import (
	"bytes"
	"math"
	"slices"
	"testing"

	"gunny/api"
	"gunny/token"
)

// Numbers that no Len and no Dist may be: those around the least and greatest
// ones, and ones whose lowest bits would be a Len, or a Dist.
var (
	wrongLens  = []int{math.MinInt, math.MinInt + 3, -1 << 32, -256, -3, -1, 0, 1, 2, 131, 132, 255, 256, 256 + 3, 65536 + 3, 1<<32 + 3, 1 << 62, math.MaxInt - 1, math.MaxInt}
	wrongDists = []int{math.MinInt, math.MinInt + 1, -1 << 32, -65535, -4095, -2, -1, 0, 4096, 4097, 65535, 65536, 65536 + 1, 1<<32 + 1, 1 << 62, math.MaxInt - 1, math.MaxInt}
)

// Lens and Dists that may be: the least and greatest ones, and ones between.
var (
	someLens  = []int{3, 4, 5, 8, 64, 127, 128, 129, 130}
	someDists = []int{1, 2, 3, 127, 128, 255, 256, 257, 511, 512, 4094, 4095}
)

// farPlaces are in no list of bytes.
var farPlaces = []int{math.MinInt, math.MinInt + 1, -1 << 32, -256, -2, -1, 1 << 32, 1 << 62, math.MaxInt - 2, math.MaxInt - 1, math.MaxInt}

// pattern is so many bytes, of which those side by side are different.
func pattern(many, seed int) []byte {
	out := make([]byte, many)
	for i := range out {
		out[i] = byte(7*i + i/256 + seed)
	}
	return out
}

// lit is the token of so many bytes.
func lit(many, seed int) token.Token {
	return token.Token{Lit: pattern(many, seed)}
}

// dup is the copy of so many bytes, so far ahead.
func dup(long, dist int) token.Token {
	return token.Token{Len: long, Dist: dist}
}

// noTokens are of every kind that may not be.
func noTokens() []token.Token {
	out := []token.Token{
		{}, {Lit: []byte{}}, lit(129, 1), lit(130, 1), lit(256, 1), lit(257, 1), lit(4096, 1),
		{Lit: pattern(129, 2), Len: 3, Dist: 1}, {Lit: pattern(1, 2), Len: 3, Dist: 1},
		{Lit: pattern(128, 2), Len: 128, Dist: 0}, {Lit: pattern(2, 2), Len: 0, Dist: 1},
		{Len: 3}, {Dist: 1}, {Lit: []byte{}, Len: 3}, {Lit: []byte{}, Dist: 1},
	}
	for _, long := range wrongLens {
		out = append(out, dup(long, 1), token.Token{Lit: []byte{}, Len: long, Dist: 4095})
	}
	for _, dist := range wrongDists {
		out = append(out, dup(3, dist), token.Token{Lit: []byte{}, Len: 130, Dist: dist})
	}
	return out
}

// someTokens are of every length of bytes, and copies at the edges.
func someTokens() []token.Token {
	var out []token.Token
	for many := 1; many <= 128; many++ {
		out = append(out, lit(many, many))
	}
	for _, long := range someLens {
		for _, dist := range someDists {
			out = append(out, dup(long, dist))
		}
	}
	return out
}

func equal(a, b token.Token) bool {
	return bytes.Equal(a.Lit, b.Lit) && a.Len == b.Len && a.Dist == b.Dist
}

// clone is a token that shares nothing with t.
func clone(t token.Token) token.Token {
	return token.Token{Lit: slices.Clone(t.Lit), Len: t.Len, Dist: t.Dist}
}

// plainSize is how many bytes a token stands for, by a list of what may be.
func plainSize(t token.Token) int {
	if t.Len == 0 && t.Dist == 0 {
		for many := 1; many <= 128; many++ {
			if len(t.Lit) == many {
				return many
			}
		}
		return 0
	}
	if string(t.Lit) != "" || 4095 < t.Dist || t.Dist < 1 {
		return 0
	}
	for long := 3; long <= 130; long++ {
		if t.Len == long {
			return long
		}
	}
	return 0
}

// plainPut is the bytes of tokens that may be.
func plainPut(ts ...token.Token) []byte {
	var out []byte
	for _, t := range ts {
		if t.Len == 0 {
			out = slices.Concat(out, []byte{byte(len(t.Lit) - 1)}, t.Lit)
		} else {
			out = slices.Concat(out, []byte{byte(125 + t.Len), byte(t.Dist % 256), byte(t.Dist / 256)})
		}
	}
	return out
}

// plainTake takes the first bytes of those from a place on, and cuts them off.
func plainTake(b []byte, at int) (token.Token, int, api.Errno) {
	if at < 0 || at > len(b) {
		return token.Token{}, 0, api.ErrEnd
	}
	rest := string(b[at:])
	switch {
	case rest == "":
		return token.Token{}, 0, api.ErrEnd
	case rest[0] <= 127 && len(rest) >= 2+int(rest[0]):
		return token.Token{Lit: []byte(rest[1 : 2+int(rest[0])])}, at + 2 + int(rest[0]), api.OK
	case rest[0] <= 127 || len(rest) < 3:
		return token.Token{}, 0, api.ErrEnd
	}
	dist := int(rest[1]) + 256*int(rest[2])
	if dist == 0 || dist >= 4096 {
		return token.Token{}, 0, api.ErrForm
	}
	return dup(int(rest[0])-125, dist), at + 3, api.OK
}

// plainGrow has the bytes that a copy stands for as those from Dist ahead on,
// again and again.
func plainGrow(b []byte, t token.Token) ([]byte, api.Errno) {
	if plainSize(t) == 0 {
		return nil, api.ErrArg
	}
	if t.Dist > len(b) {
		return nil, api.ErrForm
	}
	if t.Len == 0 {
		return slices.Concat(b, t.Lit), api.OK
	}
	again := bytes.Repeat(b[len(b)-t.Dist:], t.Len/t.Dist+1)
	return slices.Concat(b, again[:t.Len]), api.OK
}

// takes fails if Take tells anything else than the plain one, or what isn't
// named, or changes the bytes; it tells what Take did.
func takes(t *testing.T, b []byte, at int) (token.Token, int, api.Errno) {
	t.Helper()
	was := bytes.Clone(b)
	tok, end, err := token.Take(b, at)
	want, wantEnd, wantErr := plainTake(was, at)
	if !equal(tok, want) || end != wantEnd || err != wantErr {
		t.Errorf("of %d bytes, Take at %d: %v, %d, %v, not %v, %d, %v", len(b), at, tok, end, err, want, wantEnd, wantErr)
	}
	if !bytes.Equal(b, was) {
		t.Errorf("of %d bytes, Take at %d: they have changed", len(b), at)
	}
	return tok, end, err
}

// grows fails if Grow tells anything else than the plain one, or changes what
// was handed in; it tells what Grow did.
func grows(t *testing.T, b []byte, tok token.Token) ([]byte, api.Errno) {
	t.Helper()
	was, tokWas := bytes.Clone(b), clone(tok)
	got, err := token.Grow(b, tok)
	want, wantErr := plainGrow(was, tokWas)
	if !bytes.Equal(got, want) || err != wantErr {
		t.Errorf("%d bytes, and %v: %d, %v, not %d, %v", len(b), tok, got, err, want, wantErr)
	}
	if !bytes.Equal(b, was) || !equal(tok, tokWas) {
		t.Errorf("%d bytes, and %v: what was handed in has changed", len(b), tok)
	}
	return got, err
}

// steps tells numbers that look like chance, always the same ones.
func steps(seed uint64) func(below int) int {
	state := seed
	return func(below int) int {
		state += 0x9e3779b97f4a7c15
		z := (state ^ state>>30) * 0xbf58476d1ce4e5b9
		z = (z ^ z>>27) * 0x94d049bb133111eb
		return int((z ^ z>>31) % uint64(below))
	}
}

// anyToken is one that may be, of either kind.
func anyToken(next func(int) int) token.Token {
	if next(2) == 0 {
		return lit(1+next(128), next(256))
	}
	return dup(3+next(128), 1+next(4095))
}
