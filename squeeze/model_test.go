package squeeze_test

import (
	"bytes"
	"slices"
	"testing"

	"gunny/api"
	"gunny/squeeze"
)

// plainUnpack does tokens one by one, byte by byte, and cuts off what it did; it
// tells how many tokens they were, too.
func plainUnpack(b []byte) ([]byte, int, api.Errno) {
	var page []byte
	rest, many := string(b), 0
	for len(page) < 4096 {
		switch {
		case rest == "":
			return nil, 0, api.ErrEnd
		case rest[0] <= 127 && len(rest) >= 2+int(rest[0]):
			page = append(page, rest[1:2+int(rest[0])]...)
			rest = rest[2+int(rest[0]):]
		case rest[0] <= 127 || len(rest) < 3:
			return nil, 0, api.ErrEnd
		default:
			dist := int(rest[1]) + 256*int(rest[2])
			if dist == 0 || dist >= 4096 || dist > len(page) {
				return nil, 0, api.ErrForm
			}
			for left := int(rest[0]) - 125; left > 0; left-- {
				page = append(page, page[len(page)-dist])
			}
			rest = rest[3:]
		}
		many++
	}
	if len(page) > 4096 {
		return nil, 0, api.ErrLong
	}
	if rest != "" {
		return nil, 0, api.ErrForm
	}
	return page, many, api.OK
}

// unpacks fails if Unpack, or Tokens, tells anything else than the plain way, or
// changes the bytes; it tells what they told.
func unpacks(t *testing.T, b []byte) ([]byte, int, api.Errno) {
	t.Helper()
	was := bytes.Clone(b)
	page, err := squeeze.Unpack(b)
	many := squeeze.Tokens(b)
	want, wantMany, wantErr := plainUnpack(was)
	if err != wantErr || !bytes.Equal(page, want) {
		t.Fatalf("Unpack of %d bytes (%d ..): %d bytes, %v, not %d, %v", len(b), start(b), len(page), err, len(want), wantErr)
	}
	if many != wantMany {
		t.Fatalf("Tokens of %d bytes (%d ..): %d, not %d", len(b), start(b), many, wantMany)
	}
	if !bytes.Equal(b, was) {
		t.Fatalf("%d bytes (%d ..) have changed", len(b), start(was))
	}
	return page, many, err
}

// start is the first ones of bytes.
func start(b []byte) []byte {
	return b[:min(len(b), 12)]
}

// isPage fails if b isn't that page, packed, of so many tokens.
func isPage(t *testing.T, b, page []byte, many int) {
	t.Helper()
	got, gotMany, err := unpacks(t, b)
	if err != api.OK || !bytes.Equal(got, page) || gotMany != many {
		t.Errorf("of %d bytes (%d ..): %d bytes, %d tokens, %v, not %d tokens", len(b), start(b), len(got), gotMany, err, many)
	}
}

// isNone fails if b is a packed page, or another error is told, or anything
// beside it.
func isNone(t *testing.T, b []byte, want api.Errno) {
	t.Helper()
	if page, many, err := unpacks(t, b); err != want || len(page) != 0 || many != 0 {
		t.Errorf("of %d bytes (%d ..): %d bytes, %d tokens, %v, not %v", len(b), start(b), len(page), many, err, want)
	}
}

// packs fails if a page isn't packed to at most 4128 bytes that are unpacked to
// it, or not to the same ones twice, or is changed; it tells what it is packed to.
func packs(t *testing.T, page []byte) []byte {
	t.Helper()
	was := bytes.Clone(page)
	b, ok := squeeze.Pack(page)
	if !ok || len(b) > 4128 {
		t.Fatalf("a page (%d ..) is packed to %d bytes, %t", start(page), len(b), ok)
	}
	if got, many, err := unpacks(t, b); err != api.OK || !bytes.Equal(got, was) || many == 0 {
		t.Fatalf("a page (%d ..), packed and unpacked: %d bytes (%d ..), %d tokens, %v", start(was), len(got), start(got), many, err)
	}
	if !bytes.Equal(page, was) {
		t.Fatalf("a page (%d ..) has changed", start(was))
	}
	if again, ok := squeeze.Pack(page); !ok || !bytes.Equal(again, b) {
		t.Fatalf("a page (%d ..), packed again: %d bytes, %t, not those %d", start(page), len(again), ok, len(b))
	}
	return b
}

// pattern is so many bytes, of which those side by side are different.
func pattern(many, seed int) []byte {
	out := make([]byte, many)
	for i := range out {
		out[i] = byte(7*i + i/256 + seed)
	}
	return out
}

// lit is the packed bytes of one token of bytes.
func lit(b ...byte) []byte {
	return append([]byte{byte(len(b) - 1)}, b...)
}

// dup is the packed bytes of one copy.
func dup(long, dist int) []byte {
	return []byte{byte(125 + long), byte(dist), byte(dist >> 8)}
}

// lits is the packed bytes of tokens that come to these bytes, each as long as
// it may be.
func lits(b []byte) []byte {
	var out []byte
	for part := range slices.Chunk(b, 128) {
		out = append(out, lit(part...)...)
	}
	return out
}

// upTo is the packed bytes of tokens that come to so many bytes.
func upTo(many int) []byte {
	return lits(pattern(many, 3))
}

// dups is the packed bytes of one byte, and of copies of one ahead, that come to
// so many bytes: as few as can be, or so that none is shorter than three.
func dups(many int) []byte {
	out := lit(77)
	for left := many - 1; left > 0; {
		long := min(130, left)
		if left-long == 1 || left-long == 2 {
			long -= 3
		}
		out = append(out, dup(long, 1)...)
		left -= long
	}
	return out
}

// again is a page that is a piece, again and again.
func again(piece ...byte) []byte {
	return bytes.Repeat(piece, 4096/len(piece)+1)[:4096]
}

// ofKinds is a page of bytes of so many kinds, that look like chance.
func ofKinds(kinds int, seed uint64) []byte {
	next := steps(seed)
	out := make([]byte, 4096)
	for i := range out {
		out[i] = byte(next(kinds))
	}
	return out
}

// unlike is a page of bytes that look like chance, in which no three side by
// side stand twice.
func unlike(seed uint64) []byte {
	next := steps(seed)
	var out []byte
	stood := map[string]int{}
	for len(out) < 4096 {
		out = append(out, byte(next(256)))
		if len(out) < 3 {
			continue
		}
		last := string(out[len(out)-3:])
		if stood[last]++; stood[last] > 1 {
			out = out[:len(out)-1]
		}
	}
	return out
}

// patched is an unlike page in which so many bytes from one place on are those
// that stand dist ahead, one by one, and the one behind them isn't, if there is
// one.
func patched(seed uint64, at, long, dist int) []byte {
	page := unlike(seed)
	end := min(4096, at+long)
	for i := at; i < end; i++ {
		page[i] = page[i-dist]
	}
	if end < 4096 && page[end] == page[end-dist] {
		page[end]++
	}
	return page
}

// pieces is a page whose first bytes are unlike, so many, and behind them short
// pieces of those, with new bytes between.
func pieces(seed uint64, first, long, between int) []byte {
	page, next := unlike(seed), steps(seed+1)
	for at := first; at+long <= 4096; at += long + between {
		from := next(first - long)
		copy(page[at:at+long], page[from:from+long])
	}
	return page
}

// mixed is a page of bytes of so many kinds into which pieces of it were put
// again, at any places.
func mixed(kinds int, seed uint64) []byte {
	page, next := ofKinds(kinds, seed), steps(seed+1)
	for range 40 {
		from, to := next(4096), next(4096)
		copy(page[to:], page[from:min(4096, from+3+next(200))])
	}
	return page
}

// manyPages are of each kind that differs in what is packed.
func manyPages() [][]byte {
	out := [][]byte{
		make([]byte, 4096), again(255), again(7, 8), again(1, 2, 3), again(1, 2, 3, 4, 5, 6, 7, 8), again(pattern(130, 1)...),
		again(pattern(2048, 1)...), pattern(4096, 1), unlike(1), unlike(2), again(unlike(3)[:1000]...), again(unlike(4)[:4095]...),
		append(make([]byte, 4095), 1), append([]byte{1}, make([]byte, 4095)...),
		pieces(5, 1000, 3, 1), pieces(6, 1000, 4, 1), pieces(7, 300, 3, 0), pieces(8, 500, 9, 2),
	}
	for i, kinds := range []int{2, 3, 4, 16, 200, 256} {
		seed := uint64(100 + 10*i)
		out = append(out, ofKinds(kinds, seed), mixed(kinds, seed+2))
	}
	return out
}

// steps tells numbers that look like chance, always the same ones.
func steps(seed uint64) func(below int) int {
	state := seed
	return func(below int) int {
		state += 0x9e3779b97f4a7c15
		z := (state ^ state>>30) * 0xbf58476d1ce4e5b9
		z = (z ^ z>>27) * 0x94d049bb133111eb
		return int((z ^ z>>31) % uint64(below))
	}
}
