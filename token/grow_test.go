package token_test

import (
	"bytes"
	"slices"
	"testing"

	"gunny/api"
	"gunny/token"
)

// Promise 11.2, Grow.

// becomes fails if b isn't as wanted when a token has grown it.
func becomes(t *testing.T, b []byte, tok token.Token, want []byte) {
	t.Helper()
	if got, err := grows(t, b, tok); err != api.OK || !bytes.Equal(got, want) {
		t.Errorf("%d and %v: %d, %v, not %d", b, tok, got, err, want)
	}
}

// stays fails if b is grown, or another error is told, or anything beside it.
func stays(t *testing.T, b []byte, tok token.Token, want api.Errno) {
	t.Helper()
	if got, err := grows(t, b, tok); err != want || len(got) != 0 {
		t.Errorf("%d bytes and %v: %d, %v, not %v", len(b), tok, got, err, want)
	}
}

func TestGrowOfTheExample(t *testing.T) {
	becomes(t, nil, token.Token{Lit: []byte("ab")}, []byte("ab"))
	becomes(t, []byte("ab"), dup(4, 2), []byte("ababab"))
}

func TestGrowByBytes(t *testing.T) {
	for many := 1; many <= 128; many++ {
		want := pattern(many, many)
		becomes(t, nil, lit(many, many), want)
		becomes(t, []byte{}, lit(many, many), want)
		for _, ahead := range []int{1, 2, 127, 128, 4095, 4096, 4097, 9000} {
			b := pattern(ahead, 50)
			becomes(t, b, lit(many, many), slices.Concat(b, want))
		}
	}
}

func TestGrowByCopies(t *testing.T) {
	rows := []struct {
		b          string
		long, dist int
		want       string
	}{
		{"a", 3, 1, "aaaa"},
		{"a", 5, 1, "aaaaaa"},
		{"ab", 3, 1, "abbbb"},
		{"ab", 3, 2, "ababa"},
		{"ab", 4, 2, "ababab"},
		{"abc", 3, 3, "abcabc"},
		{"abc", 4, 3, "abcabca"},
		{"abc", 7, 3, "abcabcabca"},
		{"abc", 7, 2, "abcbcbcbcb"},
		{"abcdef", 3, 6, "abcdefabc"},
		{"abcdef", 3, 5, "abcdefbcd"},
		{"abcdef", 3, 4, "abcdefcde"},
		{"abcdef", 3, 3, "abcdefdef"},
		{"abcdef", 6, 6, "abcdefabcdef"},
		{"abcdef", 6, 4, "abcdefcdefcd"},
		{"abcdef", 13, 5, "abcdefbcdefbcdefbcd"},
		{"\x00\xff", 3, 2, "\x00\xff\x00\xff\x00"},
	}
	for _, row := range rows {
		becomes(t, []byte(row.b), dup(row.long, row.dist), []byte(row.want))
	}
}

// Onto few bytes, copies of all lengths of each that stand ahead, and of one
// that doesn't.
func TestGrowByEveryCopyOfFewBytes(t *testing.T) {
	for many := 1; many <= 135; many++ {
		b := pattern(many, 3)
		for long := 3; long <= 130; long++ {
			for _, dist := range []int{1, 2, 3, long - 1, long, long + 1, many - 1, many} {
				if dist >= 1 && dist <= many {
					grown(t, b, dup(long, dist))
				}
			}
			stays(t, b, dup(long, many+1), api.ErrForm)
		}
	}
}

// grown fails if b isn't grown byte by byte.
func grown(t *testing.T, b []byte, tok token.Token) {
	t.Helper()
	got, err := grows(t, b, tok)
	if err != api.OK || len(got) != len(b)+tok.Len {
		t.Fatalf("%d bytes and %v: %d, %v", len(b), tok, len(got), err)
	}
	for i := len(b); i < len(got); i++ {
		if got[i] != got[i-tok.Dist] {
			t.Fatalf("%d bytes and %v: byte %d is %d, not %d", len(b), tok, i, got[i], got[i-tok.Dist])
		}
	}
}

// Onto as many bytes as a page has, and some more, each Dist that may be.
func TestGrowByEveryDist(t *testing.T) {
	for _, many := range []int{4094, 4095, 4096, 4500} {
		b := pattern(many, 9)
		for dist := 1; dist <= 4095; dist++ {
			tok := dup(3+dist%128, dist)
			if dist > many {
				stays(t, b, tok, api.ErrForm)
			} else {
				grown(t, b, tok)
			}
		}
	}
}

// Where Dist is how many bytes there are, and one more.
func TestGrowFromTheBeginning(t *testing.T) {
	for _, many := range []int{1, 2, 3, 129, 130, 131, 255, 256, 1000, 4094} {
		b := pattern(many, 1)
		for _, long := range someLens {
			want := slices.Concat(b, bytes.Repeat(b, long/many+1)[:long])
			becomes(t, b, dup(long, many), want)
			stays(t, b, dup(long, many+1), api.ErrForm)
			stays(t, b, dup(long, 4095), api.ErrForm)
		}
	}
	b := pattern(4095, 1)
	becomes(t, b, dup(130, 4095), slices.Concat(b, b[:130]))
	for _, empty := range [][]byte{nil, {}, make([]byte, 0, 9000)} {
		for _, dist := range someDists {
			stays(t, empty, dup(3, dist), api.ErrForm)
			stays(t, empty, dup(130, dist), api.ErrForm)
		}
	}
}

func TestGrowByNone(t *testing.T) {
	for _, none := range noTokens() {
		for _, many := range []int{0, 1, 2, 3, 129, 4095, 4096, 70000} {
			if got, err := token.Grow(pattern(many, 1), none); len(got) != 0 || err != api.ErrArg {
				t.Errorf("%d bytes and %v: %d bytes, %v", many, none, len(got), err)
			}
		}
		stays(t, nil, none, api.ErrArg)
		stays(t, []byte{}, none, api.ErrArg)
	}
}

// What is no token is told ahead of a Dist that is above how many bytes there are.
func TestGrowErrorsInTheirOrder(t *testing.T) {
	rows := []struct {
		many int
		tok  token.Token
		want api.Errno
	}{
		{2, dup(2, 3), api.ErrArg},
		{2, dup(131, 3), api.ErrArg},
		{2, dup(0, 3), api.ErrArg},
		{2, dup(-4, 4095), api.ErrArg},
		{2, dup(3, 4096), api.ErrArg},
		{4095, dup(3, 4096), api.ErrArg},
		{4096, dup(3, 4096), api.ErrArg},
		{2, token.Token{Lit: []byte{1}, Dist: 3}, api.ErrArg},
		{2, token.Token{Lit: []byte{1}, Len: 3, Dist: 3}, api.ErrArg},
		{2, token.Token{Lit: pattern(129, 1), Dist: 3}, api.ErrArg},
		{0, token.Token{}, api.ErrArg},
		{0, dup(3, 0), api.ErrArg},
		{0, dup(3, -1), api.ErrArg},
		{2, dup(3, 3), api.ErrForm},
		{2, dup(130, 4095), api.ErrForm},
		{0, dup(3, 1), api.ErrForm},
	}
	for _, row := range rows {
		stays(t, pattern(row.many, 1), row.tok, row.want)
	}
}

// What lies behind a list's length is neither read nor written.
func TestGrowKeepsToTheLength(t *testing.T) {
	room := pattern(9000, 1)
	for _, many := range []int{0, 1, 2, 100, 4095} {
		for _, tok := range []token.Token{lit(1, 90), lit(128, 90), {Lit: room[8000:8128]}} {
			becomes(t, room[:many], tok, slices.Concat(pattern(9000, 1)[:many], tok.Lit))
		}
		stays(t, room[:many], token.Token{Lit: room[:129]}, api.ErrArg)
		if many < 4095 {
			stays(t, room[:many], dup(3, many+1), api.ErrForm)
		}
		if many > 0 {
			grown(t, room[:many], dup(130, 1))
			grown(t, room[:many], dup(130, many))
		}
	}
	if !bytes.Equal(room, pattern(9000, 1)) {
		t.Error("bytes behind the length have changed")
	}
}

// What is told is new memory, with which neither the list nor the token's bytes,
// nor another answer, shares any.
func TestGrowIsNewMemory(t *testing.T) {
	for _, tok := range []token.Token{lit(1, 3), lit(128, 3), dup(3, 1), dup(130, 7)} {
		for _, behind := range []int{0, 1, 128, 4096} {
			b := make([]byte, 10, 10+behind)
			copy(b, pattern(10, 1))
			first, _ := grows(t, b, tok)
			second, _ := grows(t, b, tok)
			want := slices.Clone(second)
			whole := first[:cap(first)]
			for i := range whole {
				whole[i] ^= 255
			}
			if !bytes.Equal(b, pattern(10, 1)) || !bytes.Equal(b[:cap(b)][10:], make([]byte, cap(b)-10)) {
				t.Errorf("%v: what was told shares memory with the list", tok)
			}
			if len(tok.Lit) > 0 && !bytes.Equal(tok.Lit, pattern(len(tok.Lit), 3)) {
				t.Errorf("%v: what was told shares memory with the token", tok)
			}
			clear(b[:cap(b)])
			if !bytes.Equal(second, want) {
				t.Errorf("%v: another answer, or the list, is what was told", tok)
			}
		}
	}
}

// Onto nothing, a token's bytes are new memory too.
func TestGrowFromNothingIsNewMemory(t *testing.T) {
	for _, empty := range [][]byte{nil, {}, make([]byte, 0, 300)} {
		tok := lit(100, 3)
		got, _ := grows(t, empty, tok)
		clear(tok.Lit)
		if !bytes.Equal(got, pattern(100, 3)) {
			t.Error("the token's bytes are what was told")
		}
		clear(got)
		if !bytes.Equal(empty[:cap(empty)], make([]byte, cap(empty))) {
			t.Error("bytes behind the length have changed")
		}
	}
}

// The list's own bytes may be the token's.
func TestGrowByItself(t *testing.T) {
	b := pattern(128, 5)
	becomes(t, b, token.Token{Lit: b}, slices.Concat(b, b))
	becomes(t, b[:64], token.Token{Lit: b[32:96]}, slices.Concat(b[:64], b[32:96]))
	becomes(t, b[64:], token.Token{Lit: b[:1]}, slices.Concat(b[64:], b[:1]))
}

// A list that was refused is grown as if nothing had been.
func TestGrowKeepsNothing(t *testing.T) {
	b := []byte("ab")
	for range 3 {
		stays(t, b, dup(3, 3), api.ErrForm)
		stays(t, b, token.Token{}, api.ErrArg)
		becomes(t, b, dup(4, 2), []byte("ababab"))
		becomes(t, b, token.Token{Lit: []byte("c")}, []byte("abc"))
	}
}
