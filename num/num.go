// Package num is layer 1: numbers in bytes, lowest byte first, and parts of
// words. See shared/doc/01-num.md.
package num

const (
	wordBits  = 64
	wordBytes = 8
	byteBits  = 8
	mostUp    = 1 << 62
)

// Put is the bytes of the numbers, size of each, one behind the other.
func Put(size int, ns ...uint64) []byte {
	if !sizeMayBe(size) {
		return nil
	}
	out := make([]byte, size*len(ns))
	for i, n := range ns {
		write(out, i*size, size, n)
	}
	return out
}

// Get is the number of size bytes at a place of b; false, if they aren't all there.
func Get(b []byte, at, size int) (uint64, bool) {
	if !isThere(b, at, size) {
		return 0, false
	}
	var n uint64
	for i := range size {
		n |= uint64(b[at+i]) << (byteBits * i)
	}
	return n, true
}

// Lay is a copy of b with n's lowest size bytes at a place; false, if b has no such place.
func Lay(b []byte, at, size int, n uint64) ([]byte, bool) {
	if !isThere(b, at, size) {
		return nil, false
	}
	out := make([]byte, len(b))
	copy(out, b)
	write(out, at, size, n)
	return out, true
}

// Mask is the word in which just the part at a bit, so wide, is 1; 0 of a part that can't be.
func Mask(at, wide int) uint64 {
	if at < 0 || at >= wordBits || wide < 1 {
		return 0
	}
	wide = min(wide, wordBits-at)
	return (^uint64(0) >> (wordBits - wide)) << at
}

// Cut is a part of w, as a number of its own; 0 of a part that can't be.
func Cut(w uint64, at, wide int) uint64 {
	part := Mask(at, wide)
	if part == 0 { // at may be below 0, and a shift by that would panic
		return 0
	}
	return (w & part) >> at
}

// Set is w with the lowest bits of n in a part; w itself, if the part can't be.
func Set(w uint64, at, wide int, n uint64) uint64 {
	part := Mask(at, wide)
	if part == 0 { // at may be below 0, and a shift by that would panic
		return w
	}
	return (w &^ part) | ((n << at) & part)
}

// Bit tells whether a bit of w is 1; one that w hasn't isn't.
func Bit(w uint64, at int) bool {
	return w&Mask(at, 1) != 0
}

// Up is the least multiple of by that isn't less than n; n itself, if n or by
// is below 1, or the multiple would be above 2^62.
func Up(n, by int) int {
	if n < 1 || by < 1 || n%by == 0 {
		return n
	}
	more := by - n%by
	if n > mostUp-more { // held against the difference, since the sum may wrap round
		return n
	}
	return n + more
}

func sizeMayBe(size int) bool {
	return size >= 1 && size <= wordBytes
}

// isThere compares at with a difference, since at+size may wrap round.
func isThere(b []byte, at, size int) bool {
	return sizeMayBe(size) && at >= 0 && at <= len(b)-size
}

func write(b []byte, at, size int, n uint64) {
	for i := range size {
		b[at+i] = byte(n >> (byteBits * i))
	}
}
