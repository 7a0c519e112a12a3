package codec_test

import (
	"bytes"
	"math"
	"slices"
	"testing"

	"gunny/api"
	"gunny/codec"
	"gunny/squeeze"
)

// Promise 14.1: Back.

// forms are the three in which a page is kept.
var forms = []int{api.Same, api.Packed, api.Raw}

// pack is a page's packed bytes.
func pack(page []byte) []byte {
	packed, _ := squeeze.Pack(page)
	return packed
}

// cases are of each form, and of a number of bytes that it may have.
func cases() []struct {
	form int
	kept []byte
} {
	most, _ := packedIn(3072)
	return []struct {
		form int
		kept []byte
	}{
		{api.Same, make([]byte, 8)}, {api.Same, []byte{1, 2, 3, 4, 5, 6, 7, 8}}, {api.Packed, pack(make([]byte, 4096))},
		{api.Packed, pack(unlikeUpTo(300, 1))}, {api.Packed, most}, {api.Raw, unlike(1)}, {api.Raw, make([]byte, 4096)},
	}
}

func TestBackOfSame(t *testing.T) {
	for _, page := range wordPages() {
		isPage(t, api.Same, page[:8:8], page)
	}
	for i := range 8 {
		word := make([]byte, 8)
		word[i] = 200
		isPage(t, api.Same, word, again(word...))
	}
	next := steps(1)
	for range 100 {
		word := make([]byte, 8)
		for i := range word {
			word[i] = byte(next(256))
		}
		isPage(t, api.Same, word, again(word...))
	}
}

func TestBackOfRaw(t *testing.T) {
	for _, page := range allPages(t) {
		isPage(t, api.Raw, page, page)
	}
}

// Packed bytes may be of any page, and of any tokens: of a page of one word, too.
func TestBackOfPacked(t *testing.T) {
	for _, page := range allPages(t) {
		if packed := pack(page); len(packed) <= 3072 {
			isPage(t, api.Packed, packed, page)
		} else {
			isNone(t, api.Packed, packed, api.ErrForm)
		}
	}
	isPage(t, api.Packed, slices.Concat(lit(7), bytes.Repeat(dup(130, 1), 31), dup(65, 1)), again(7))
	isPage(t, api.Packed, slices.Concat(lits(pattern(66, 3)), bytes.Repeat(dup(130, 66), 31)), again(pattern(66, 3)...))
}

// Bytes that are too few, or too many, for a word, or a page.
func TestBackOfAnotherNumberOfBytes(t *testing.T) {
	long := slices.Concat(unlike(1), unlike(2))
	for _, b := range [][]byte{long, make([]byte, 8192), again(1, 2, 3, 4, 5, 6, 7, 8)} {
		for _, many := range []int{0, 1, 4, 7, 8, 9, 16, 64, 512, 2048, 3072, 3073, 4088, 4095, 4096, 4097, 4104, 8192} {
			if many > len(b) {
				continue
			}
			if many != 8 {
				isNone(t, api.Same, b[:many], api.ErrForm)
			}
			if many != 4096 {
				isNone(t, api.Raw, b[:many], api.ErrForm)
			}
		}
	}
	for _, none := range [][]byte{nil, {}, make([]byte, 0, 8), make([]byte, 0, 4096)} {
		isNone(t, api.Same, none, api.ErrForm)
		isNone(t, api.Raw, none, api.ErrForm)
		isNone(t, api.Packed, none, api.ErrEnd)
	}
	for many := range 4200 {
		for _, form := range forms {
			goesBack(t, form, long[:many])
		}
	}
}

// Packed bytes that Unpack takes for none: what it tells is told.
func TestBackOfPackedTellsWhatUnpackTells(t *testing.T) {
	isNone(t, api.Packed, make([]byte, 8), api.ErrEnd)
	isNone(t, api.Packed, []byte{255, 255, 255, 255, 255, 255, 255, 255}, api.ErrForm)
	isNone(t, api.Packed, lits(pattern(2000, 1)), api.ErrEnd)
	isNone(t, api.Packed, dup(3, 1), api.ErrForm)
	isNone(t, api.Packed, slices.Concat(lit(7), dup(130, 2)), api.ErrForm)
	isNone(t, api.Packed, slices.Concat(lit(7), bytes.Repeat(dup(130, 1), 32)), api.ErrLong)
	isNone(t, api.Packed, slices.Concat(lit(7), bytes.Repeat(dup(130, 1), 31)), api.ErrEnd)
	isNone(t, api.Packed, slices.Concat(lit(7), bytes.Repeat(dup(130, 1), 31), dup(66, 1)), api.ErrLong)
	isNone(t, api.Packed, slices.Concat(lit(7), bytes.Repeat(dup(130, 1), 31), dup(64, 1)), api.ErrEnd)
	for _, page := range [][]byte{again(1, 2, 3), unlikeUpTo(300, 1), packedTo(t, 3000)} {
		packed := pack(page)
		for many := range len(packed) {
			isNone(t, api.Packed, packed[:many], api.ErrEnd)
		}
		for _, more := range [][]byte{{0}, {255}, {0, 7}, lit(1, 2, 3), dup(3, 1), dup(130, 1)} {
			isNone(t, api.Packed, slices.Concat(packed, more), api.ErrForm)
		}
	}
}

// A packed page of which any one byte is turned is another page, or none.
func TestBackOfPackedWithOneByteTurned(t *testing.T) {
	count := map[api.Errno]int{}
	for _, page := range [][]byte{make([]byte, 4096), again(pattern(130, 1)...), ofKinds(3, 1), unlikeUpTo(2000, 1)} {
		packed := pack(page)
		for at := range packed {
			for _, by := range []byte{1, 16, 128, 255} {
				packed[at] ^= by
				_, err := goesBack(t, api.Packed, packed)
				count[err]++
				packed[at] ^= by
			}
		}
		isPage(t, api.Packed, packed, page)
	}
	for _, err := range []api.Errno{api.OK, api.ErrEnd, api.ErrForm, api.ErrLong} {
		if count[err] == 0 {
			t.Errorf("%v is never told", err)
		}
	}
}

// Bytes that are as many as are kept of a packed page at most are unpacked; of
// more there is no page, whatever they are.
func TestBackOfPackedAtItsMost(t *testing.T) {
	for _, many := range []int{3069, 3070, 3071, 3072} {
		packed, page := packedIn(many)
		isPage(t, api.Packed, packed, page)
		isNone(t, api.Packed, packed[:many-1], api.ErrEnd)
	}
	for _, many := range []int{3073, 3074, 3075, 3200, 4000, 4095, 4096, 4097, 4128, 4129, 5000} {
		packed, page := packedIn(many)
		if got, err := squeeze.Unpack(packed); err != api.OK || !bytes.Equal(got, page) {
			t.Fatalf("%d bytes are no packed page: %v", many, err)
		}
		isNone(t, api.Packed, packed, api.ErrForm)
	}
	most, _ := packedIn(3072)
	isNone(t, api.Packed, append(most, 0), api.ErrForm)
	isNone(t, api.Packed, pack(unlike(1)), api.ErrForm)
}

// More than 3072 bytes are ErrForm also where Unpack would tell another error.
func TestBackOfPackedTellsTooManyBytesFirst(t *testing.T) {
	end := lits(pattern(4000, 1))
	over := slices.Concat(lits(pattern(4090, 1)), dup(130, 1))
	packed, _ := packedIn(3500)
	for want, b := range map[api.Errno][]byte{api.ErrEnd: end, api.ErrLong: over, api.ErrForm: append(packed, 0)} {
		if _, err := squeeze.Unpack(b); err != want {
			t.Fatalf("Unpack of %d bytes: %v", len(b), err)
		}
		isNone(t, api.Packed, b, api.ErrForm)
	}
	isNone(t, api.Packed, end[:3073], api.ErrForm)
	isNone(t, api.Packed, end[:3072], api.ErrEnd)
	isNone(t, api.Packed, make([]byte, 3073), api.ErrForm)
	isNone(t, api.Packed, make([]byte, 3072), api.ErrEnd)
	isNone(t, api.Packed, make([]byte, 1<<20), api.ErrForm)
	fits := slices.Concat(lits(pattern(2900, 5)), bytes.Repeat(dup(130, 2900), 10))
	isNone(t, api.Packed, fits, api.ErrLong)
	isNone(t, api.Packed, append(fits, make([]byte, 3072-len(fits))...), api.ErrLong)
	isNone(t, api.Packed, append(fits, make([]byte, 3073-len(fits))...), api.ErrForm)
}

// A form that is none of the three is told first, whatever is kept.
func TestBackOfAnotherForm(t *testing.T) {
	packed, _ := packedIn(3000)
	lists := [][]byte{nil, {}, {1}, make([]byte, 7), make([]byte, 8), make([]byte, 9), make([]byte, 3073), make([]byte, 4095), make([]byte, 4096), make([]byte, 4097),
		unlike(1), packed, packed[:100], append(packed[:3000:3000], 0)}
	others := []int{api.Nothing, api.Disk, 5, 6, 7, 8, 64, 255, 256, 257, 258, 259, 512, 65537, 4096, -1, -2, -3, -4, -255,
		math.MinInt, math.MinInt + 1, math.MinInt + 2, math.MinInt + 3, math.MaxInt, math.MaxInt - 1, math.MinInt32, math.MaxInt32, 1<<32 + 1, 1<<32 + 2, 1<<32 + 3}
	for _, form := range others {
		for _, kept := range lists {
			isNone(t, form, kept, api.ErrArg)
		}
	}
}

// Each form has bytes that are of another one: they aren't told apart by these.
func TestBackGoesByTheForm(t *testing.T) {
	zeros := make([]byte, 4096)
	isPage(t, api.Raw, zeros, zeros)
	isNone(t, api.Same, zeros, api.ErrForm)
	isNone(t, api.Packed, zeros, api.ErrForm)
	isNone(t, api.Raw, zeros[:8], api.ErrForm)
	isPage(t, api.Same, zeros[:8], zeros)
	isNone(t, api.Packed, zeros[:8], api.ErrEnd)
	packed := pack(zeros)
	isPage(t, api.Packed, packed, zeros)
	isNone(t, api.Same, packed, api.ErrForm)
	isNone(t, api.Raw, packed, api.ErrForm)
}

// What is told is new memory: the page neither is what is kept, nor another
// answer's.
func TestBackIsNewMemory(t *testing.T) {
	for _, c := range cases() {
		was := bytes.Clone(c.kept)
		first, _ := codec.Back(c.form, c.kept)
		second, err := codec.Back(c.form, c.kept)
		if err != api.OK {
			t.Fatalf("of form %d, %d bytes: %v", c.form, len(c.kept), err)
		}
		pageWas := bytes.Clone(second)
		whole := first[:cap(first)]
		for i := range whole {
			whole[i] ^= 255
		}
		if !bytes.Equal(c.kept, was) || !bytes.Equal(second, pageWas) {
			t.Fatalf("of form %d, %d bytes: what is told shares memory", c.form, len(was))
		}
		for i := range c.kept {
			c.kept[i] ^= 255
		}
		if !bytes.Equal(second, pageWas) {
			t.Fatalf("of form %d, %d bytes: what was handed in is kept", c.form, len(was))
		}
	}
}

// Bytes behind the length, which would make too few enough, or enough too many,
// aren't read, nor written.
func TestBackKeepsToTheLength(t *testing.T) {
	for _, c := range cases() {
		long := slices.Concat(c.kept, unlike(5))
		page, _ := plainBack(c.form, c.kept)
		many := len(c.kept)
		isPage(t, c.form, long[:many], page)
		tooFew := api.ErrForm
		if c.form == api.Packed {
			tooFew = api.ErrEnd
		}
		isNone(t, c.form, long[:many-1], tooFew)
		isNone(t, c.form, long[:many+1], api.ErrForm)
		isNone(t, c.form, long[:0], tooFew)
		if !bytes.Equal(long, slices.Concat(c.kept, unlike(5))) {
			t.Fatalf("of form %d, %d bytes: what lies behind has changed", c.form, many)
		}
	}
}

// What is told hangs on the form and the bytes alone, not on what was told ahead.
func TestBackKeepsNothing(t *testing.T) {
	for range 3 {
		for _, c := range cases() {
			for _, form := range forms {
				goesBack(t, form, c.kept)
			}
			isNone(t, api.Nothing, c.kept, api.ErrArg)
		}
	}
}
