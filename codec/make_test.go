package codec_test

import (
	"bytes"
	"slices"
	"testing"

	"gunny/api"
	"gunny/codec"
	"gunny/squeeze"
)

// Promise 14.1: Make.

func TestMakeOfAPageOfNought(t *testing.T) {
	form, kept := codec.Make(make([]byte, 4096))
	if form != api.Same || !bytes.Equal(kept, make([]byte, 8)) {
		t.Errorf("form %d, %d", form, kept)
	}
}

func TestMakeOfWhatIsNoPage(t *testing.T) {
	long := slices.Concat(unlike(1), unlike(2), unlike(3))
	lists := [][]byte{nil, {}, make([]byte, 0, 4096), long[:0], long[4096:4096]}
	for _, many := range []int{1, 2, 7, 8, 9, 16, 512, 2048, 3072, 4088, 4095, 4097, 4104, 4128, 8191, 8192, 8193, 12288} {
		lists = append(lists, long[:many], make([]byte, many), bytes.Repeat([]byte{7}, many))
	}
	for _, many := range []int{65536, 65536 + 4096, 1 << 20} {
		lists = append(lists, make([]byte, many))
	}
	for _, b := range lists {
		if form, kept := makes(t, b); form != api.Nothing || len(kept) != 0 {
			t.Errorf("of %d bytes: form %d, %d bytes", len(b), form, len(kept))
		}
	}
}

func TestMakeOfPagesOfOneWord(t *testing.T) {
	for _, page := range wordPages() {
		form, kept := makes(t, page)
		if form != api.Same || !bytes.Equal(kept, page[:8]) {
			t.Errorf("of %d ..: form %d, %d", start(page), form, kept)
		}
	}
	for b := range 256 {
		isKept(t, again(byte(b)), api.Same, 8)
	}
}

// Pages of one word but for one byte, at each end and between, aren't Same.
func TestMakeOfPagesOfOneWordButForOneByte(t *testing.T) {
	for _, page := range [][]byte{make([]byte, 4096), again(255), again(1, 2, 3, 4, 5, 6, 7, 8)} {
		for _, at := range []int{0, 1, 3, 4, 7, 8, 9, 15, 16, 2047, 2048, 4079, 4080, 4087, 4088, 4089, 4092, 4094, 4095} {
			for _, by := range []byte{1, 128, 255} {
				page[at] ^= by
				if form, kept := makes(t, page); form != api.Packed || len(kept) > 200 {
					t.Errorf("of %d .., another byte at %d: form %d, %d bytes", start(page), at, form, len(kept))
				}
				page[at] ^= by
			}
		}
		isKept(t, page, api.Same, 8)
	}
	page := make([]byte, 4096)
	for at := range page {
		page[at] = 1
		if form, _ := codec.Make(page); form != api.Packed {
			t.Errorf("another byte at %d: form %d", at, form)
		}
		page[at] = 0
	}
}

// Pages of one thing again and again that isn't as long as a word.
func TestMakeOfPagesOfOnePiece(t *testing.T) {
	for long := 1; long <= 20; long++ {
		want := api.Packed
		if 8%long == 0 {
			want = api.Same
		}
		page := again(pattern(long, 1)...)
		if form, _ := makes(t, page); form != want {
			t.Errorf("of pieces of %d bytes: form %d", long, form)
		}
	}
}

func TestMakeOfPagesPackedToAsManyBytesAsMayBe(t *testing.T) {
	if codec.Most != 3072 {
		t.Errorf("Most: %d", codec.Most)
	}
	isKept(t, packedTo(t, 3070), api.Packed, 3070)
	isKept(t, packedTo(t, 3071), api.Packed, 3071)
	isKept(t, packedTo(t, 3072), api.Packed, 3072)
	isKept(t, packedTo(t, 3073), api.Raw, 4096)
	isKept(t, packedTo(t, 3074), api.Raw, 4096)
	isKept(t, packedTo(t, 4095), api.Raw, 4096)
	isKept(t, packedTo(t, 4096), api.Raw, 4096)
	isKept(t, packedTo(t, 4097), api.Raw, 4096)
}

func TestMakeOfPagesPackedToMoreAndMoreBytes(t *testing.T) {
	forms := map[int]int{}
	for first := 2850; first < 3150; first++ {
		page := unlikeUpTo(first, 7)
		packed, _ := squeeze.Pack(page)
		form, kept := makes(t, page)
		if (form == api.Packed) != (len(packed) <= 3072) || (form == api.Raw) != (len(packed) > 3072) {
			t.Errorf("of a page packed to %d bytes: form %d, %d bytes", len(packed), form, len(kept))
		}
		forms[form]++
	}
	if forms[api.Packed] < 50 || forms[api.Raw] < 50 {
		t.Errorf("of pages packed to more and more bytes: %v", forms)
	}
}

func TestMakeOfPagesInWhichNothingStandsTwice(t *testing.T) {
	for seed := range uint64(20) {
		page := unlike(seed)
		form, kept := makes(t, page)
		if form != api.Raw || !bytes.Equal(kept, page) {
			t.Errorf("page %d: form %d, %d bytes (%d ..)", seed, form, len(kept), start(kept))
		}
	}
}

func TestMakeOfPagesOfAllKinds(t *testing.T) {
	forms := map[int]int{}
	for _, page := range allPages(t) {
		form, _ := makes(t, page)
		forms[form]++
	}
	for _, form := range []int{api.Same, api.Packed, api.Raw} {
		if forms[form] < 5 {
			t.Errorf("only %d pages are of form %d", forms[form], form)
		}
	}
}

// What is kept is new memory: it neither is the page's, nor another answer's.
func TestMakeIsNewMemory(t *testing.T) {
	for _, page := range allPages(t) {
		was := bytes.Clone(page)
		_, first := codec.Make(page)
		_, second := codec.Make(page)
		keptWas := bytes.Clone(second)
		whole := first[:cap(first)]
		for i := range whole {
			whole[i] ^= 255
		}
		if !bytes.Equal(page, was) || !bytes.Equal(second, keptWas) {
			t.Fatalf("of a page (%d ..): what is told shares memory", start(was))
		}
		for i := range page {
			page[i] ^= 255
		}
		if !bytes.Equal(second, keptWas) {
			t.Fatalf("of a page (%d ..): what was handed in is kept", start(was))
		}
	}
}

// Bytes behind the length aren't read, nor written.
func TestMakeKeepsToTheLength(t *testing.T) {
	for _, page := range allPages(t) {
		form, kept := makes(t, page)
		for _, behind := range [][]byte{page, unlike(9)} {
			long := slices.Concat(page, behind)
			if got, gotKept := makes(t, long[:4096]); got != form || !bytes.Equal(gotKept, kept) {
				t.Fatalf("of a page (%d ..) with bytes behind: form %d, %d bytes", start(page), got, len(gotKept))
			}
			makes(t, long[:4095])
			makes(t, long[:4097])
			if !bytes.Equal(long, slices.Concat(page, behind)) {
				t.Fatalf("of a page (%d ..): what lies behind has changed", start(page))
			}
		}
	}
}

// What is told hangs on the page alone, not on what was told ahead.
func TestMakeKeepsNothing(t *testing.T) {
	for range 3 {
		isKept(t, unlike(1), api.Raw, 4096)
		isKept(t, make([]byte, 4096), api.Same, 8)
		makes(t, nil)
		isKept(t, packedTo(t, 3072), api.Packed, 3072)
		makes(t, make([]byte, 4097))
	}
}
