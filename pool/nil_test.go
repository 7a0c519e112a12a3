package pool_test

import (
	"testing"

	"gunny/api"
	"gunny/handle"
	"gunny/pool"
)

// Promises 20.1 to 20.3: a nil pool has nothing, and takes nothing.

func TestNewOfNilIsNil(t *testing.T) {
	if p := pool.New(nil); p != nil {
		t.Error("New(nil): a pool")
	}
}

func TestNilAlloc(t *testing.T) {
	var none *pool.Pool
	for _, many := range lengths() {
		if h, err := none.Alloc(pattern(many, 1)); h != 0 || err != api.ErrNoMem {
			t.Fatalf("Alloc of %d bytes: %d, %v", many, h, err)
		}
	}
	for _, b := range [][]byte{nil, {}, make([]byte, 0, 9), pattern(4097, 1), pattern(8192, 1), pattern(65537, 1)} {
		if h, err := none.Alloc(b); h != 0 || err != api.ErrArg {
			t.Fatalf("Alloc of %d bytes: %d, %v", len(b), h, err)
		}
	}
}

func TestNilHasNothing(t *testing.T) {
	var none *pool.Pool
	if r := none.RAM(); r != nil {
		t.Error("RAM: not nil")
	}
	if none.Len() != 0 || none.Bytes() != 0 || none.Frames() != 0 || len(none.Sheets()) != 0 {
		t.Errorf("Len %d, Bytes %d, Frames %d, Sheets %v", none.Len(), none.Bytes(), none.Frames(), none.Sheets())
	}
	numbers := append(noHandles(), noClasses()...)
	for n := range 520 {
		numbers = append(numbers, n)
	}
	for _, n := range numbers {
		if b, ok := none.Read(n); len(b) != 0 || ok {
			t.Fatalf("Read(%d): %d bytes, %t", n, len(b), ok)
		}
		if p, ok := none.Where(n); p != (handle.Place{}) || ok {
			t.Fatalf("Where(%d): %v, %t", n, p, ok)
		}
		if none.Free(n) || none.Shift(n) || none.Objects(n) != 0 {
			t.Fatalf("Free(%d), Shift(%d): not false, or Objects(%d) not 0", n, n, n)
		}
	}
}

// It takes nothing, so there is no frame that a new object would take.
func TestNilNeed(t *testing.T) {
	var none *pool.Pool
	for _, n := range append(noLengths(), lengths()...) {
		if got := none.Need(n); got != 0 {
			t.Fatalf("Need(%d): %d", n, got)
		}
	}
}

// The document promises nothing of frames that others gave back; they are
// refused here, and nothing panics.
func TestFramesThatOthersGaveBack(t *testing.T) {
	for _, lost := range []int{0, 1} {
		b := newPair(t, 8)
		l := b.lay(15, 2, 1)
		b.r.Give(b.sheet(lost).Row[0])
		if h := l[1-lost][0]; b.p.Shift(h) && lost == 0 {
			t.Errorf("Shift(%d) into no frame: true", h)
		}
		if h := l[lost][0]; b.p.Shift(h) {
			t.Errorf("Shift(%d) from no frame: true", h)
		}
		if h, err := b.p.Alloc(pattern(1024, 1)); lost == 0 && (h != 0 || err != api.ErrNoMem) {
			t.Errorf("Alloc: %d, %v", h, err)
		}
		for h := range 20 {
			b.p.Read(h)
			b.p.Free(h)
		}
	}
}
