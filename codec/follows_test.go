package codec_test

import (
	"bytes"
	"slices"
	"testing"

	"gunny/api"
	"gunny/codec"
)

// Promise 14.3.

// comesBack fails if a page isn't made back of what is kept of it, if more is
// kept than a page has, or if anything else is saved than the rest.
func comesBack(t *testing.T, page []byte) int {
	t.Helper()
	was := bytes.Clone(page)
	form, kept := codec.Make(page)
	if !slices.Contains(forms, form) || len(kept) == 0 || len(kept) > 4096 {
		t.Fatalf("a page (%d ..): form %d, %d bytes", start(was), form, len(kept))
	}
	if saved := codec.Saves(page); saved != 4096-len(kept) {
		t.Fatalf("a page (%d ..): %d bytes are kept, %d saved", start(was), len(kept), saved)
	}
	for i := range page {
		page[i] ^= 255
	}
	got, err := codec.Back(form, kept)
	if err != api.OK || !bytes.Equal(got, was) {
		t.Fatalf("a page (%d ..) of form %d comes back as %d bytes (%d ..), %v", start(was), form, len(got), start(got), err)
	}
	copy(page, was)
	again, keptAgain := codec.Make(got)
	if again != form || !bytes.Equal(keptAgain, kept) {
		t.Fatalf("a page (%d ..) of form %d is kept anew in form %d, %d bytes", start(was), form, again, len(keptAgain))
	}
	return form
}

func TestWhatIsMadeComesBack(t *testing.T) {
	for _, page := range allPages(t) {
		comesBack(t, page)
		for _, at := range []int{0, 1, 7, 8, 127, 128, 2048, 4087, 4088, 4095} {
			page[at]++
			comesBack(t, page)
		}
	}
}

func TestManyPagesComeBack(t *testing.T) {
	next := steps(3)
	count := map[int]int{}
	for seed := range uint64(300) {
		var page []byte
		switch next(4) {
		case 0:
			page = ofKinds(1+next(256), seed)
		case 1:
			page = unlikeUpTo(next(4097), seed)
		case 2:
			page = again(ofKinds(256, seed)[:1+next(4096)]...)
		default:
			page = again(ofKinds(256, seed)[:1+next(8)]...)
		}
		count[comesBack(t, page)]++
	}
	for _, form := range forms {
		if count[form] < 20 {
			t.Errorf("only %d pages are of form %d", count[form], form)
		}
	}
}

// Pages of small and large numbers, a word each.
func TestPagesOfNumbersComeBack(t *testing.T) {
	for _, step := range []uint64{0, 1, 2, 3, 255, 256, 65537, 1 << 40, 0x9e3779b97f4a7c15} {
		page := make([]byte, 4096)
		for i := range page {
			page[i] = byte(step * uint64(i/8) >> (8 * (i % 8)))
		}
		comesBack(t, page)
	}
}

// What a page is made back of, in any form that it may have, makes it again.
func TestWhatComesBackIsMade(t *testing.T) {
	for _, c := range cases() {
		page, err := codec.Back(c.form, c.kept)
		if err != api.OK {
			t.Fatalf("of form %d, %d bytes: %v", c.form, len(c.kept), err)
		}
		comesBack(t, page)
	}
}

// Whatever is kept, in whatever form, a page comes of it, or none and an error.
func TestWhateverIsKept(t *testing.T) {
	next := steps(5)
	count := map[api.Errno]int{}
	for round := range 3000 {
		form := next(6) - 1
		kept := make([]byte, []int{8, 4096, next(4200), next(20)}[round%4])
		most := 1 + next(256)
		for i := range kept {
			kept[i] = byte(next(most))
		}
		if round%5 == 0 {
			kept = pack(unlikeUpTo(next(3100), uint64(round)))
		}
		page, err := goesBack(t, form, kept)
		if (err == api.OK) != (len(page) == 4096) || err != api.OK && len(page) != 0 {
			t.Fatalf("of form %d, %d bytes: %d bytes, %v", form, len(kept), len(page), err)
		}
		count[err]++
	}
	for _, err := range []api.Errno{api.OK, api.ErrArg, api.ErrForm, api.ErrEnd} {
		if count[err] < 20 {
			t.Errorf("%v is told only %d times", err, count[err])
		}
	}
}
