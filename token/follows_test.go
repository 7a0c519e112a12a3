package token_test

import (
	"bytes"
	"slices"
	"testing"

	"gunny/api"
	"gunny/token"
)

// Promise 11.3.

// takenBack fails if what is put of these tokens isn't taken, one by one, to
// the end.
func takenBack(t *testing.T, ts ...token.Token) {
	t.Helper()
	b, ok := token.Put(ts...)
	if !ok || !bytes.Equal(b, plainPut(ts...)) {
		t.Fatalf("Put of %d tokens: %d, %t", len(ts), b, ok)
	}
	at := 0
	for i, want := range ts {
		got, end, err := takes(t, b, at)
		if err != api.OK || !equal(got, want) || end <= at || end > len(b) {
			t.Fatalf("token %d, at %d of %d: %v, %d, %v, not %v", i, at, len(b), got, end, err, want)
		}
		if alone, ok := token.Put(got); !ok || !bytes.Equal(alone, b[at:end]) {
			t.Fatalf("token %d, put again: %d, %t", i, alone, ok)
		}
		at = end
	}
	if at != len(b) {
		t.Errorf("%d tokens end at %d of %d", len(ts), at, len(b))
	}
	refuses(t, b, at, api.ErrEnd)
}

func TestWhatIsPutIsTaken(t *testing.T) {
	takenBack(t)
	takenBack(t, someTokens()...)
	for _, tok := range someTokens() {
		takenBack(t, tok)
		takenBack(t, tok, tok)
		takenBack(t, lit(1, 1), tok, dup(130, 4095), tok)
	}
	for long := 3; long <= 130; long++ {
		for dist := long; dist <= 4095; dist += 127 {
			takenBack(t, dup(long, dist))
		}
	}
	for dist := 1; dist <= 4095; dist++ {
		takenBack(t, dup(3+dist%128, dist), lit(1+dist%128, dist))
	}
}

func TestManyTokensArePutAndTaken(t *testing.T) {
	next := steps(2)
	for range 300 {
		ts := make([]token.Token, next(60))
		for i := range ts {
			ts[i] = anyToken(next)
		}
		takenBack(t, ts...)
	}
}

// One that is cut short anywhere within its last token ends too soon.
func TestWhatIsCutShortEndsTooSoon(t *testing.T) {
	next := steps(3)
	for range 60 {
		ahead, last := anyToken(next), anyToken(next)
		b, _ := token.Put(ahead, last)
		_, at, _ := takes(t, b, 0)
		for there := at; there < len(b); there++ {
			tells(t, b[:there], 0, ahead, at)
			refuses(t, b[:there], at, api.ErrEnd)
		}
	}
}

// What is taken of any bytes may be, and is put as the bytes that stood there.
func TestWhatIsTakenIsPut(t *testing.T) {
	next := steps(4)
	for range 300 {
		b := make([]byte, 1+next(300))
		for i := range b {
			b[i] = byte(next(256))
			if i%3 == 2 && next(2) == 0 {
				b[i] %= 16
			}
		}
		for at := range b {
			tok, end, err := takes(t, b, at)
			if err != api.OK {
				continue
			}
			if !token.May(tok) || token.Size(tok) != plainSize(tok) {
				t.Fatalf("%v was taken: May %t, Size %d", tok, token.May(tok), token.Size(tok))
			}
			if put, ok := token.Put(tok); !ok || !bytes.Equal(put, b[at:end]) {
				t.Fatalf("%v was taken of %d, and is put as %d, %t", tok, b[at:end], put, ok)
			}
		}
	}
}

// grownWell fails if b isn't the beginning of what it grows to, or that isn't
// longer by Size, or a copy's bytes aren't those that stand Dist ahead.
func grownWell(t *testing.T, b []byte, tok token.Token) []byte {
	t.Helper()
	got, err := grows(t, b, tok)
	if err != api.OK || len(got) != len(b)+token.Size(tok) || !bytes.Equal(got[:len(b)], b) {
		t.Fatalf("%d bytes and %v: %d bytes, %v", len(b), tok, len(got), err)
	}
	for i := len(b); i < len(got); i++ {
		if tok.Len > 0 && got[i] != got[i-tok.Dist] || tok.Len == 0 && got[i] != tok.Lit[i-len(b)] {
			t.Fatalf("%d bytes and %v: byte %d is %d", len(b), tok, i, got[i])
		}
	}
	return got
}

func TestWhatGrowsBeginsWithWhatItWas(t *testing.T) {
	for _, many := range []int{0, 1, 2, 3, 130, 4095, 5000} {
		b := pattern(many, 2)
		for _, tok := range someTokens() {
			if tok.Dist > many {
				stays(t, b, tok, api.ErrForm)
			} else {
				grownWell(t, b, tok)
			}
		}
	}
}

// Bytes that grow again and again, till they are longer than a page, with
// tokens that are refused between.
func TestBytesGrowAgainAndAgain(t *testing.T) {
	next := steps(5)
	for range 40 {
		var b []byte
		for len(b) < 6000 {
			tok := anyToken(next)
			if tok.Dist > len(b) {
				stays(t, b, tok, api.ErrForm)
				tok.Dist = 1 + next(len(b)+1)
			}
			stays(t, b, token.Token{Lit: pattern(129, 1)}, api.ErrArg)
			if tok.Dist > len(b) {
				continue
			}
			was := slices.Clone(b)
			longer := grownWell(t, b, tok)
			if !bytes.Equal(b, was) {
				t.Fatal("what was handed in has changed")
			}
			b = longer
		}
	}
}

// Tokens that are put, taken one by one and grown come to what they stand for.
func TestPutTakenAndGrown(t *testing.T) {
	b, _ := token.Put(token.Token{Lit: []byte("ab")}, dup(4, 2), token.Token{Lit: []byte("-")}, dup(3, 7), dup(5, 1))
	var out []byte
	for at := 0; at < len(b); {
		tok, end, err := takes(t, b, at)
		if err != api.OK {
			t.Fatal(err)
		}
		out, at = grownWell(t, out, tok), end
	}
	if string(out) != "ababab-abaaaaaa" {
		t.Errorf("%q", out)
	}
}
