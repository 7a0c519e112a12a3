package codec_test

import (
	"bytes"
	"slices"
	"testing"

	"gunny/api"
	"gunny/codec"
	"gunny/squeeze"
)

// formOf is a page's form, and what is kept of it, told byte by byte; to what a
// page is packed squeeze alone can tell, since that is free.
func formOf(page []byte) (int, []byte) {
	if len(page) != 4096 {
		return api.Nothing, nil
	}
	if isOfOneWord(page) {
		return api.Same, page[:8]
	}
	if packed, _ := squeeze.Pack(page); len(packed) <= 3072 {
		return api.Packed, packed
	}
	return api.Raw, page
}

// isOfOneWord tells whether each byte is the one that stands eight ahead.
func isOfOneWord(page []byte) bool {
	for i := 8; i < len(page); i++ {
		if page[i] != page[i-8] {
			return false
		}
	}
	return true
}

// plainBack is the page of which that is kept, made byte by byte.
func plainBack(form int, kept []byte) ([]byte, api.Errno) {
	if form < api.Same || form > api.Raw {
		return nil, api.ErrArg
	}
	if form == api.Same && len(kept) == 8 {
		return again(kept...), api.OK
	}
	if form == api.Packed && len(kept) <= 3072 {
		return plainUnpack(kept)
	}
	if form == api.Raw && len(kept) == 4096 {
		return kept, api.OK
	}
	return nil, api.ErrForm
}

// plainUnpack does tokens one by one, byte by byte, and cuts off what it did.
func plainUnpack(b []byte) ([]byte, api.Errno) {
	var page []byte
	rest := string(b)
	for len(page) < 4096 {
		switch {
		case rest == "":
			return nil, api.ErrEnd
		case rest[0] <= 127 && len(rest) >= 2+int(rest[0]):
			page = append(page, rest[1:2+int(rest[0])]...)
			rest = rest[2+int(rest[0]):]
		case rest[0] <= 127 || len(rest) < 3:
			return nil, api.ErrEnd
		default:
			dist := int(rest[1]) + 256*int(rest[2])
			if dist == 0 || dist >= 4096 || dist > len(page) {
				return nil, api.ErrForm
			}
			for left := int(rest[0]) - 125; left > 0; left-- {
				page = append(page, page[len(page)-dist])
			}
			rest = rest[3:]
		}
	}
	if len(page) > 4096 {
		return nil, api.ErrLong
	}
	if rest != "" {
		return nil, api.ErrForm
	}
	return page, api.OK
}

// makes fails if Make, or Saves, tells anything else than the plain way, or
// changes the page; it tells what Make told.
func makes(t *testing.T, page []byte) (int, []byte) {
	t.Helper()
	was := bytes.Clone(page)
	form, kept := codec.Make(page)
	saved := codec.Saves(page)
	wantForm, wantKept := formOf(was)
	if form != wantForm || !bytes.Equal(kept, wantKept) {
		t.Fatalf("Make of %d bytes (%d ..): form %d, %d bytes (%d ..), not form %d, %d bytes (%d ..)",
			len(was), start(was), form, len(kept), start(kept), wantForm, len(wantKept), start(wantKept))
	}
	if want := len(was) - len(wantKept); wantForm != api.Nothing && saved != want || wantForm == api.Nothing && saved != 0 {
		t.Fatalf("Saves of %d bytes (%d ..): %d", len(was), start(was), saved)
	}
	if !bytes.Equal(page, was) {
		t.Fatalf("%d bytes (%d ..) have changed", len(was), start(was))
	}
	return form, kept
}

// isKept fails if a page is of another form, or if another number of bytes is
// kept of it.
func isKept(t *testing.T, page []byte, form, many int) {
	t.Helper()
	got, kept := makes(t, page)
	if got != form || len(kept) != many || codec.Saves(page) != 4096-many {
		t.Errorf("a page (%d ..): form %d, %d bytes, %d saved; not form %d, %d bytes", start(page), got, len(kept), codec.Saves(page), form, many)
	}
}

// goesBack fails if Back tells anything else than the plain way, or changes the
// bytes; it tells what it told.
func goesBack(t *testing.T, form int, kept []byte) ([]byte, api.Errno) {
	t.Helper()
	was := bytes.Clone(kept)
	page, err := codec.Back(form, kept)
	want, wantErr := plainBack(form, was)
	if err != wantErr || !bytes.Equal(page, want) {
		t.Fatalf("Back of form %d, %d bytes (%d ..): %d bytes (%d ..), %v, not %d bytes (%d ..), %v",
			form, len(was), start(was), len(page), start(page), err, len(want), start(want), wantErr)
	}
	if !bytes.Equal(kept, was) {
		t.Fatalf("%d bytes (%d ..) have changed", len(was), start(was))
	}
	return page, err
}

// isPage fails if Back tells anything else than that page.
func isPage(t *testing.T, form int, kept, page []byte) {
	t.Helper()
	if got, err := goesBack(t, form, kept); err != api.OK || !bytes.Equal(got, page) {
		t.Errorf("of form %d, %d bytes (%d ..): %d bytes (%d ..), %v", form, len(kept), start(kept), len(got), start(got), err)
	}
}

// isNone fails if Back tells a page, or another error, or anything beside it.
func isNone(t *testing.T, form int, kept []byte, want api.Errno) {
	t.Helper()
	if page, err := goesBack(t, form, kept); err != want || len(page) != 0 {
		t.Errorf("of form %d, %d bytes (%d ..): %d bytes, %v, not %v", form, len(kept), start(kept), len(page), err, want)
	}
}

// start is the first ones of bytes.
func start(b []byte) []byte {
	return b[:min(len(b), 12)]
}

// pattern is so many bytes, of which those side by side are different.
func pattern(many, seed int) []byte {
	out := make([]byte, many)
	for i := range out {
		out[i] = byte(7*i + i/256 + seed)
	}
	return out
}

// lit is the packed bytes of one token of bytes.
func lit(b ...byte) []byte {
	return append([]byte{byte(len(b) - 1)}, b...)
}

// dup is the packed bytes of one copy.
func dup(long, dist int) []byte {
	return []byte{byte(125 + long), byte(dist), byte(dist >> 8)}
}

// lits is the packed bytes of tokens that come to these bytes, each as long as
// it may be.
func lits(b []byte) []byte {
	var out []byte
	for part := range slices.Chunk(b, 128) {
		out = append(out, lit(part...)...)
	}
	return out
}

// packedIn is a packed page of just so many bytes, from 3000 to 5000, and that
// page: always the same one, of more or fewer tokens of one byte.
func packedIn(many int) (packed, page []byte) {
	page = pattern(2900, 5)
	for len(page) < 4096 {
		page = append(page, page[len(page)-2900])
	}
	for singles := 0; len(packed) != many; singles++ {
		packed = nil
		for i := range singles {
			packed = append(packed, lit(page[i])...)
		}
		packed = append(packed, lits(page[singles:2900])...)
		for range 9 {
			packed = append(packed, dup(130, 2900)...)
		}
		packed = append(packed, dup(26, 2900)...)
	}
	return packed, page
}

// again is a page that is a piece, again and again.
func again(piece ...byte) []byte {
	return bytes.Repeat(piece, 4096/len(piece)+1)[:4096]
}

// ofKinds is a page of bytes of so many kinds, that look like chance.
func ofKinds(kinds int, seed uint64) []byte {
	next := steps(seed)
	out := make([]byte, 4096)
	for i := range out {
		out[i] = byte(next(kinds))
	}
	return out
}

// unlike is a page of bytes that look like chance, in which no three side by
// side stand twice.
func unlike(seed uint64) []byte {
	next := steps(seed)
	var out []byte
	stood := map[string]int{}
	for len(out) < 4096 {
		out = append(out, byte(next(256)))
		if len(out) < 3 {
			continue
		}
		last := string(out[len(out)-3:])
		if stood[last]++; stood[last] > 1 {
			out = out[:len(out)-1]
		}
	}
	return out
}

// unlikeUpTo is an unlike page that is all 0 from a place on.
func unlikeUpTo(many int, seed uint64) []byte {
	page := unlike(seed)
	clear(page[many:])
	return page
}

// packedTo is a page that is packed to just so many bytes.
func packedTo(t *testing.T, many int) []byte {
	t.Helper()
	for seed := range uint64(3) {
		for first := many - 160; first < min(many, 4096); first++ {
			page := unlikeUpTo(first, seed)
			if packed, _ := squeeze.Pack(page); len(packed) == many {
				return page
			}
		}
	}
	t.Fatalf("no page is packed to %d bytes", many)
	return nil
}

// wordPages are of one word each: of one byte alone, of different ones.
func wordPages() [][]byte {
	return [][]byte{
		make([]byte, 4096), again(1), again(255), again(1, 2, 3, 4, 5, 6, 7, 8), again(8, 7, 6, 5, 4, 3, 2, 1), again(255, 0),
		again(1, 0, 0, 0, 0, 0, 0, 0), again(0, 0, 0, 0, 0, 0, 0, 1), again(0, 0, 0, 0, 0, 0, 0, 128), again(255, 255, 255, 255, 0, 0, 0, 0), again(1, 2, 3, 4),
	}
}

// mixedPages are packed, or not, each to another number of bytes.
func mixedPages() [][]byte {
	out := [][]byte{
		again(1, 2, 3), again(1, 2, 3, 4, 5, 6, 7, 8, 9), again(pattern(16, 1)...), again(pattern(130, 1)...), pattern(4096, 1),
		append(make([]byte, 4095), 1), append([]byte{1}, make([]byte, 4095)...), unlike(1), unlike(2), again(unlike(3)[:2048]...), again(unlike(4)[:4095]...),
		again([]byte("A page's form is Same, if it is of one word; else Packed; else Raw. ")...),
	}
	for _, kinds := range []int{2, 3, 4, 16, 64, 100, 128, 200, 256} {
		out = append(out, ofKinds(kinds, uint64(kinds)))
	}
	for first := 500; first < 4096; first += 500 {
		out = append(out, unlikeUpTo(first, uint64(first)))
	}
	return out
}

// edgePages are packed to as many bytes as are kept of a packed page at most, to
// one fewer, and to one more.
func edgePages(t *testing.T) [][]byte {
	t.Helper()
	return [][]byte{packedTo(t, 3071), packedTo(t, 3072), packedTo(t, 3073)}
}

// allPages are of all these kinds.
func allPages(t *testing.T) [][]byte {
	t.Helper()
	return slices.Concat(wordPages(), mixedPages(), edgePages(t))
}

// steps tells numbers that look like chance, always the same ones.
func steps(seed uint64) func(below int) int {
	state := seed
	return func(below int) int {
		state += 0x9e3779b97f4a7c15
		z := (state ^ state>>30) * 0xbf58476d1ce4e5b9
		z = (z ^ z>>27) * 0x94d049bb133111eb
		return int((z ^ z>>31) % uint64(below))
	}
}
