package squeeze_test

import (
	"bytes"
	"slices"
	"testing"

	"gunny/api"
	"gunny/squeeze"
)

// Promise 13.2: Unpack, and beside each of its answers Tokens.

func TestExample(t *testing.T) {
	b := upTo(4096)
	if len(b) != 4128 {
		t.Fatalf("%d bytes", len(b))
	}
	isPage(t, b, pattern(4096, 3), 32)
	isPage(t, bytes.Repeat(append([]byte{127}, make([]byte, 128)...), 32), make([]byte, 4096), 32)
}

func TestUnpackOfNothing(t *testing.T) {
	for _, b := range [][]byte{nil, {}, upTo(4096)[:0], dups(4096)[:0]} {
		isNone(t, b, api.ErrEnd)
	}
}

func TestUnpackOfCopies(t *testing.T) {
	isPage(t, slices.Concat(lit('a', 'b'), bytes.Repeat(dup(46, 2), 89)), again('a', 'b'), 90)
	isPage(t, slices.Concat(lit(1, 2, 3), bytes.Repeat(dup(130, 3), 31), dup(63, 3)), again(1, 2, 3), 33)
	isPage(t, dups(4096), again(77), 33)
	half := pattern(2048, 3)
	isPage(t, slices.Concat(lits(half), bytes.Repeat(dup(128, 2048), 16)), slices.Concat(half, half), 32)
	one := slices.Concat([]byte{5}, make([]byte, 4092), []byte{5, 0, 0})
	isPage(t, slices.Concat(lit(5), lit(0), dups(4092)[2:], dup(3, 4093)), one, 35)
}

// somePacked are packed pages whose tokens are of each kind.
func somePacked(t *testing.T) [][]byte {
	out := [][]byte{
		dups(4096), upTo(4096), slices.Concat(upTo(2048), bytes.Repeat(dup(128, 2048), 16)),
		slices.Concat(upTo(100), bytes.Repeat(dup(3, 100), 1332)), bytes.Repeat([]byte{0, 9}, 4096),
	}
	for _, page := range manyPages() {
		out = append(out, packs(t, page))
	}
	return out
}

// Bytes that end within a token, or behind one, at each place ahead of the end.
func TestUnpackOfWhatIsCutShort(t *testing.T) {
	for _, b := range somePacked(t) {
		step := 1 + len(b)/400
		for there := 0; there < len(b); there += step {
			isNone(t, b[:there], api.ErrEnd)
		}
		for there := len(b) - min(len(b), 10); there < len(b); there++ {
			isNone(t, b[:there], api.ErrEnd)
		}
	}
}

// The same bytes, with others behind: one of each kind, and more, tokens or not.
func TestUnpackWithBytesLeft(t *testing.T) {
	for _, b := range somePacked(t) {
		for more := 0; more < 256; more += 15 {
			isNone(t, append(bytes.Clone(b), byte(more)), api.ErrForm)
		}
		for _, more := range [][]byte{lit(1), upTo(128), dup(3, 1), dup(130, 4095), dup(3, 0), dup(3, 4096), {127, 1}, {200, 1}, {255, 255, 255}, b, make([]byte, 5000)} {
			isNone(t, slices.Concat(b, more), api.ErrForm)
		}
	}
}

// A packed page of which one byte is another one: of the first page, which is
// short, each byte is any other one; of the others, at many places, one bit of it
// is turned, or each.
func TestUnpackWithOneByteTurned(t *testing.T) {
	turns := pattern(256, 0)
	for _, b := range somePacked(t) {
		for at := 0; at < len(b); at += 1 + len(b)/120 {
			was := b[at]
			for _, turn := range turns {
				b[at] = was ^ turn
				unpacks(t, b)
			}
			b[at] = was
		}
		turns = []byte{1, 16, 128, 255}
	}
}

// Of a page of longer tokens of both kinds each byte, bit by bit.
func TestUnpackWithEachBitTurned(t *testing.T) {
	b := slices.Concat(upTo(300), dup(130, 300), lit(pattern(90, 4)...), dup(3, 1), dup(100, 500), lit(7), bytes.Repeat(dup(130, 255), 26), upTo(92))
	if _, _, err := unpacks(t, b); err != api.OK {
		t.Fatal(err)
	}
	for at := range b {
		for bit := range 8 {
			b[at] ^= 1 << bit
			unpacks(t, b)
			b[at] ^= 1 << bit
		}
	}
}

// Copies from ahead of the beginning: the first token, one byte too far, and as
// far as can be told; and just from the beginning, which may be.
func TestUnpackOfCopiesFromAhead(t *testing.T) {
	for long := 3; long <= 130; long++ {
		for _, dist := range []int{1, 2, 3, 255, 256, 4094, 4095} {
			isNone(t, dup(long, dist), api.ErrForm)
			isNone(t, slices.Concat(dup(long, dist), upTo(4096)), api.ErrForm)
		}
	}
	for _, many := range []int{1, 2, 3, 127, 128, 129, 130, 255, 256, 257, 2048, 3966, 4000, 4093, 4094} {
		for _, long := range []int{3, 4, 129, 130} {
			for _, dist := range []int{many + 1, many + 2, 4095} {
				if dist <= 4095 && dist > many {
					isNone(t, slices.Concat(upTo(many), dup(long, dist)), api.ErrForm)
					isNone(t, slices.Concat(upTo(many), dup(long, dist), upTo(4096)), api.ErrForm)
				}
			}
			unpacks(t, slices.Concat(upTo(many), dup(long, many), upTo(max(0, 4096-many-long))))
		}
		if many+130 <= 4096 {
			rest := 4096 - many - 130
			page := slices.Concat(pattern(many, 3), again(pattern(many, 3)...)[:130], pattern(rest, 8))
			b := slices.Concat(upTo(many), dup(130, many), lits(pattern(rest, 8)))
			isPage(t, b, page, (many+127)/128+1+(rest+127)/128)
		}
	}
}

// Take's own error, at the first token and at later ones.
func TestUnpackOfWrongDists(t *testing.T) {
	for _, many := range []int{0, 1, 128, 2000, 4000, 4093, 4095} {
		for _, dist := range []int{0, 4096, 4097, 8192, 32768, 65535} {
			for _, long := range []int{3, 4, 96, 130} {
				isNone(t, slices.Concat(upTo(many), dup(long, dist)), api.ErrForm)
				isNone(t, slices.Concat(upTo(many), dup(long, dist), upTo(4096)), api.ErrForm)
			}
		}
	}
}

// A token that comes just to the end, or leads one byte beyond, or farther: of
// each length that it may have.
func TestUnpackUpToTheEndAndBeyond(t *testing.T) {
	for long := 1; long <= 130; long++ {
		for beyond := range 4 {
			isLast(t, 4096-long+beyond, long)
		}
		isLast(t, 4095, long)
		isLast(t, 4094, long)
	}
}

// isLast fails if a token of so many bytes, of either kind, behind so many bytes,
// doesn't come just to a page, or leads too far.
func isLast(t *testing.T, many, long int) {
	t.Helper()
	if many > 4095 || many+long < 4096 {
		return
	}
	ahead := pattern(many, 3)
	if long <= 128 {
		isEnd(t, lits(ahead), slices.Concat(ahead, pattern(long, 50)), lit(pattern(long, 50)...))
	}
	if long >= 3 {
		for _, dist := range []int{1, 129, 2048, many} {
			page := bytes.Clone(ahead)
			for range long {
				page = append(page, page[len(page)-dist])
			}
			isEnd(t, lits(ahead), page, dup(long, dist))
		}
	}
}

// isEnd fails if the tokens ahead, and the last one, aren't the page they come
// to, or another error than of one that is too long; with bytes behind likewise.
func isEnd(t *testing.T, ahead, page, last []byte) {
	t.Helper()
	b := slices.Concat(ahead, last)
	if len(page) > 4096 {
		isNone(t, b, api.ErrLong)
		isNone(t, append(b, 0), api.ErrLong)
		isNone(t, slices.Concat(b, lit(7)), api.ErrLong)
		isNone(t, slices.Concat(b, dup(3, 0)), api.ErrLong)
		isNone(t, slices.Concat(b, upTo(4096)), api.ErrLong)
		return
	}
	if got, _, err := unpacks(t, b); err != api.OK || !bytes.Equal(got, page) {
		t.Errorf("%d bytes and %d ..: %v", len(ahead), start(last), err)
	}
	isNone(t, append(b, 0), api.ErrForm)
	isNone(t, slices.Concat(b, lit(7)), api.ErrForm)
	isNone(t, slices.Concat(b, upTo(4096)), api.ErrForm)
}

// Where several errors would be: the one that the document names first, of the
// first token that has one.
func TestUnpackErrorsInTheirOrder(t *testing.T) {
	rows := []struct {
		why  string
		b    []byte
		want api.Errno
	}{
		{"cut short, and would lead too far", slices.Concat(upTo(4000), lit(pattern(128, 1)...)[:128]), api.ErrEnd},
		{"a copy cut short, and would lead too far", slices.Concat(upTo(4000), dup(130, 1)[:2]), api.ErrEnd},
		{"a copy cut short, and would be from ahead", dup(3, 9)[:2], api.ErrEnd},
		{"a copy cut short, of no Dist", []byte{128, 0}, api.ErrEnd},
		{"a Dist of 0, and would lead too far", slices.Concat(upTo(4000), dup(130, 0)), api.ErrForm},
		{"a Dist of 4096, and would lead too far", slices.Concat(upTo(4095), dup(130, 4096)), api.ErrForm},
		{"from ahead, and would lead too far", slices.Concat(upTo(3970), dup(130, 3971)), api.ErrForm},
		{"from farther ahead, and would lead too far", slices.Concat(upTo(4094), dup(3, 4095)), api.ErrForm},
		{"from ahead, and bytes left", slices.Concat(upTo(4094), dup(3, 4095), lit(1)), api.ErrForm},
		{"leads too far, and bytes left", slices.Concat(upTo(4094), dup(3, 4094), lit(1)), api.ErrLong},
		{"leads too far, and half a token left", slices.Concat(upTo(4000), lit(pattern(97, 1)...), []byte{9}), api.ErrLong},
		{"a page, and half a token left", slices.Concat(upTo(4096), []byte{9}), api.ErrForm},
		{"a page, and half a copy left", slices.Concat(upTo(4096), []byte{255, 1}), api.ErrForm},
		{"from ahead, and what is behind ends too soon", slices.Concat(lit(1), dup(3, 2), []byte{9}), api.ErrForm},
		{"from ahead, and a Dist of 0 behind", slices.Concat(lit(1), dup(3, 2), dup(3, 0)), api.ErrForm},
		{"fewer bytes than a page, and the end", slices.Concat(lit(1), dup(3, 1)), api.ErrEnd},
		{"all but one byte", upTo(4095), api.ErrEnd},
		{"all but one byte, of copies", dups(4095), api.ErrEnd},
	}
	for _, row := range rows {
		t.Log(row.why)
		isNone(t, row.b, row.want)
	}
}

// As many tokens as can be, of one byte each, and of three, and as few.
func TestUnpackOfManyTokensAndOfFew(t *testing.T) {
	var ones []byte
	for _, b := range unlike(1) {
		ones = append(ones, lit(b)...)
	}
	isPage(t, ones, unlike(1), 4096)
	isNone(t, ones[:8191], api.ErrEnd)
	isNone(t, ones[:8190], api.ErrEnd)
	isNone(t, slices.Concat(ones, ones), api.ErrForm)
	isPage(t, slices.Concat(lit(7), bytes.Repeat(dup(3, 1), 1365)), again(7), 1366)
	isPage(t, upTo(4096), pattern(4096, 3), 32)
	isPage(t, slices.Concat(upTo(66), bytes.Repeat(dup(130, 66), 31)), again(pattern(66, 3)...), 32)
	isPage(t, slices.Concat(upTo(128), bytes.Repeat(dup(130, 128), 30), dup(68, 128)), again(pattern(128, 3)...), 32)
}

// Copies of each length, and from each place that may be.
func TestUnpackOfTokensAtTheirEdges(t *testing.T) {
	for _, long := range []int{3, 4, 5, 127, 128, 129, 130} {
		for _, dist := range []int{1, 2, 3, 4, 127, 128, 255, 256, 257, 3965, 3966} {
			page := pattern(dist, 3)
			for range long {
				page = append(page, page[len(page)-dist])
			}
			rest := pattern(4096-len(page), 90)
			many := (dist+127)/128 + 1 + (len(rest)+127)/128
			isPage(t, slices.Concat(upTo(dist), dup(long, dist), lits(rest)), slices.Concat(page, rest), many)
		}
	}
	for dist := 1; dist <= 4093; dist++ {
		page := pattern(4093, 3)
		for range 3 {
			page = append(page, page[len(page)-dist])
		}
		isPage(t, slices.Concat(upTo(4093), dup(3, dist)), page, 33)
	}
}

// Bytes of all lengths: of tokens of one kind, that come to a page at one of
// these lengths, and of bytes that look like chance.
func TestUnpackOfBytesOfAllLengths(t *testing.T) {
	long := upTo(9000)
	next := steps(1)
	for many := range 4400 {
		switch b := long[:many]; {
		case many < 4128:
			isNone(t, b, api.ErrEnd)
		case many == 4128:
			isPage(t, b, pattern(4096, 3), 32)
		default:
			isNone(t, b, api.ErrForm)
		}
		b := make([]byte, many)
		most := 1 + next(256)
		for i := range b {
			b[i] = byte(next(most))
		}
		unpacks(t, b)
	}
}

// All bytes of up to two: none of them comes to a page.
func TestUnpackOfAllShortBytes(t *testing.T) {
	for first := range 256 {
		isNone(t, []byte{byte(first)}, api.ErrEnd)
		for second := range 256 {
			isNone(t, []byte{byte(first), byte(second)}, api.ErrEnd)
		}
	}
}

// Tokens like chance, some of which may not be, up to a page or farther.
func TestUnpackOfManyTokens(t *testing.T) {
	next := steps(2)
	count := map[api.Errno]int{}
	for round := range 3000 {
		var b []byte
		come := 0
		for come < 4096 && next(2000) > 0 {
			long := 1 + next(128)
			if round%3 > 0 && come > 0 && long > 2 {
				b = append(b, dup(long, 1+next(min(4095, come)))...)
			} else {
				b = append(b, lit(pattern(long, round)...)...)
			}
			come += long
			if come > 3960 && come < 4096 && next(2) == 0 {
				left := 4096 - come
				b = append(b, lits(pattern(left, 9))...)
				come += left
			}
		}
		if next(10) == 0 {
			b = append(b, byte(next(256)))
		}
		if next(10) == 0 && len(b) > 0 {
			b[next(len(b))] = byte(next(256))
		}
		_, _, err := unpacks(t, b)
		count[err]++
	}
	for _, err := range []api.Errno{api.OK, api.ErrEnd, api.ErrForm, api.ErrLong} {
		if count[err] < 50 {
			t.Errorf("%v is told only %d times", err, count[err])
		}
	}
}

// What is told is new memory: the page neither is the bytes', nor another
// answer's.
func TestUnpackIsNewMemory(t *testing.T) {
	for _, b := range somePacked(t) {
		was := bytes.Clone(b)
		first, _ := squeeze.Unpack(b)
		second, _ := squeeze.Unpack(b)
		pageWas := bytes.Clone(second)
		whole := first[:cap(first)]
		for i := range whole {
			whole[i] ^= 255
		}
		if !bytes.Equal(b, was) || !bytes.Equal(second, pageWas) {
			t.Fatalf("of %d bytes (%d ..): what is told shares memory", len(b), start(was))
		}
		clear(b)
		if !bytes.Equal(second, pageWas) {
			t.Fatalf("of %d bytes (%d ..): what was handed in is kept", len(b), start(was))
		}
	}
}

// Bytes behind the length, which would be the rest of a packed page, or too
// many, aren't read.
func TestUnpackKeepsToTheLength(t *testing.T) {
	for _, b := range somePacked(t) {
		page, many, _ := plainUnpack(b)
		long := slices.Concat(b, upTo(4096))
		isPage(t, long[:len(b)], page, many)
		isNone(t, long[:len(b)-1], api.ErrEnd)
		isNone(t, long[:len(b)+1], api.ErrForm)
		if !bytes.Equal(long, slices.Concat(b, upTo(4096))) {
			t.Fatalf("of %d bytes: what lies behind has changed", len(b))
		}
	}
}

// What is told hangs on the bytes alone, not on what was told ahead.
func TestUnpackKeepsNothing(t *testing.T) {
	for range 3 {
		isPage(t, dups(4096), again(77), 33)
		isNone(t, dups(4095), api.ErrEnd)
		isNone(t, slices.Concat(dups(4095), lit(1, 2)), api.ErrLong)
		isPage(t, slices.Concat(dups(4095), lit(1)), append(again(77)[:4095], 1), 34)
		isNone(t, dup(3, 1), api.ErrForm)
	}
}
