package num_test

import (
	"bytes"
	"math"
	"slices"
	"testing"

	"gunny/num"
)

var wrongSizes = []int{math.MinInt, math.MinInt + 1, -8, -1, 0, 9, 10, 16, 64, 1 << 31, 1 << 62, math.MaxInt - 1, math.MaxInt}

var someNumbers = []uint64{0, 1, 2, 127, 128, 255, 256, 258, 65535, 65536, 0x0807060504030201, 0xf0e1d2c3b4a59687, 1 << 31, 1 << 32, 1 << 55, 1 << 56, 1 << 63, math.MaxInt64, math.MaxUint64 - 1, math.MaxUint64}

// plainBytes tells a number's bytes by division alone, so that it shares no way of working with num.
func plainBytes(size int, n uint64) []byte {
	var out []byte
	for range size {
		out = append(out, byte(n%256))
		n /= 256
	}
	return out
}

func plainLow(size int, n uint64) uint64 {
	if size == 8 {
		return n
	}
	most := uint64(1)
	for range size {
		most *= 256
	}
	return n % most
}

// countUp is bytes all of which differ from their neighbours and none of which is 0.
func countUp(many int) []byte {
	b := make([]byte, many)
	for i := range b {
		b[i] = byte(i%250 + 1)
	}
	return b
}

// Promise 1.1, Put.

func TestPutExamples(t *testing.T) {
	cases := []struct {
		size int
		ns   []uint64
		want []byte
	}{
		{2, []uint64{1, 258}, []byte{1, 0, 2, 1}},
		{1, []uint64{7}, []byte{7}},
		{1, []uint64{1, 2, 3}, []byte{1, 2, 3}},
		{3, []uint64{0x030201, 0x060504}, []byte{1, 2, 3, 4, 5, 6}},
		{8, []uint64{0x0807060504030201}, []byte{1, 2, 3, 4, 5, 6, 7, 8}},
		{8, []uint64{1, math.MaxUint64}, []byte{1, 0, 0, 0, 0, 0, 0, 0, 255, 255, 255, 255, 255, 255, 255, 255}},
		{4, []uint64{0}, []byte{0, 0, 0, 0}},
	}
	for _, c := range cases {
		if got := num.Put(c.size, c.ns...); !bytes.Equal(got, c.want) {
			t.Errorf("Put(%d, %d): %d, not %d", c.size, c.ns, got, c.want)
		}
	}
}

func TestPutLeavesOutWhatIsAbove(t *testing.T) {
	if got := num.Put(1, 256, 511); !bytes.Equal(got, []byte{0, 255}) {
		t.Errorf("Put(1, 256, 511): %d", got)
	}
	for size := 1; size <= 8; size++ {
		got := num.Put(size, someNumbers...)
		var want []byte
		for _, n := range someNumbers {
			want = append(want, plainBytes(size, n)...)
		}
		if !bytes.Equal(got, want) {
			t.Errorf("size %d: %d, not %d", size, got, want)
		}
	}
}

func TestPutOfNoNumbers(t *testing.T) {
	for size := 1; size <= 8; size++ {
		if got := num.Put(size); len(got) != 0 {
			t.Errorf("Put(%d): %d", size, got)
		}
	}
}

func TestPutWrongSizes(t *testing.T) {
	for _, size := range wrongSizes {
		if got := num.Put(size); len(got) != 0 {
			t.Errorf("Put(%d): %d", size, got)
		}
		if got := num.Put(size, 1); len(got) != 0 {
			t.Errorf("Put(%d, 1): %d", size, got)
		}
		if got := num.Put(size, someNumbers...); len(got) != 0 {
			t.Errorf("Put(%d, ..): %d", size, got)
		}
	}
}

func TestPutManyNumbers(t *testing.T) {
	ns := make([]uint64, 5000)
	for i := range ns {
		ns[i] = uint64(i) * 0x9e3779b97f4a7c15
	}
	got := num.Put(8, ns...)
	if len(got) != 40000 {
		t.Fatalf("%d bytes", len(got))
	}
	for i, n := range ns {
		if !bytes.Equal(got[8*i:8*i+8], plainBytes(8, n)) {
			t.Fatalf("number %d", i)
		}
	}
}

func TestPutNeitherChangesNorKeeps(t *testing.T) {
	ns := []uint64{1, 2, 3, 99}
	first := num.Put(2, ns[:3]...)
	second := num.Put(2, ns[:3]...)
	if !slices.Equal(ns, []uint64{1, 2, 3, 99}) {
		t.Fatalf("handed in, and changed: %d", ns)
	}
	want := []byte{1, 0, 2, 0, 3, 0}
	for i := range ns {
		ns[i] = 77
	}
	for i := range second {
		second[i] = 88
	}
	if !bytes.Equal(first, want) {
		t.Errorf("an answer that changed behind its call: %d", first)
	}
	if got := num.Put(2, 1, 2, 3); !bytes.Equal(got, want) {
		t.Errorf("a later answer: %d", got)
	}
}

// Promise 1.1, Get.

func TestGetExamples(t *testing.T) {
	b := []byte{1, 0, 2, 1, 255, 254, 253, 252, 251}
	cases := []struct {
		at, size int
		want     uint64
	}{
		{0, 2, 1},
		{2, 2, 258},
		{0, 1, 1},
		{1, 1, 0},
		{8, 1, 251},
		{0, 8, 0xfcfdfeff01020001},
		{1, 8, 0xfbfcfdfeff010200},
		{4, 5, 0xfbfcfdfeff},
		{3, 3, 0xfeff01},
	}
	for _, c := range cases {
		if got, ok := num.Get(b, c.at, c.size); !ok || got != c.want {
			t.Errorf("Get(b, %d, %d): %#x, %t, not %#x", c.at, c.size, got, ok, c.want)
		}
	}
}

// farPlaces are places of which no list has one; their sums with sizes wrap round.
func farPlaces() []int {
	var out []int
	for i := range 12 {
		out = append(out, math.MinInt+i, math.MaxInt-i)
	}
	return append(out, -1<<32, -1<<31, 1<<31, 1<<32, 1<<62, -1<<62)
}

func TestGetAtAllPlaces(t *testing.T) {
	for many := range 20 {
		b := countUp(many)
		for size := 1; size <= 8; size++ {
			for at := -12; at < many+12; at++ {
				got, ok := num.Get(b, at, size)
				there := at >= 0 && at+size <= many
				var want uint64
				if there {
					for i := size - 1; i >= 0; i-- {
						want = want*256 + uint64(b[at+i])
					}
				}
				if ok != there || got != want {
					t.Fatalf("of %d bytes, Get(b, %d, %d): %#x, %t, not %#x, %t", many, at, size, got, ok, want, there)
				}
			}
		}
	}
}

func TestGetWrongInputs(t *testing.T) {
	for _, b := range [][]byte{nil, {}, countUp(1), countUp(8), countUp(100)} {
		for _, size := range wrongSizes {
			for _, at := range append(farPlaces(), -1, 0, 1, 7, 8, 99, 100) {
				if got, ok := num.Get(b, at, size); ok || got != 0 {
					t.Errorf("of %d bytes, Get(b, %d, %d): %d, %t", len(b), at, size, got, ok)
				}
			}
		}
		for size := 1; size <= 8; size++ {
			for _, at := range farPlaces() {
				if got, ok := num.Get(b, at, size); ok || got != 0 {
					t.Errorf("of %d bytes, Get(b, %d, %d): %d, %t", len(b), at, size, got, ok)
				}
			}
		}
	}
}

func TestGetReadsNothingBehindTheLength(t *testing.T) {
	b := countUp(16)[:4]
	if got, ok := num.Get(b, 3, 2); ok || got != 0 {
		t.Errorf("Get(b, 3, 2): %d, %t", got, ok)
	}
	if got, ok := num.Get(b, 4, 1); ok || got != 0 {
		t.Errorf("Get(b, 4, 1): %d, %t", got, ok)
	}
	if got, ok := num.Get(b, 0, 4); !ok || got != 0x04030201 {
		t.Errorf("Get(b, 0, 4): %#x, %t", got, ok)
	}
}

func TestGetChangesNothing(t *testing.T) {
	b := countUp(16)
	for size := -1; size <= 10; size++ {
		for at := -1; at <= 17; at++ {
			num.Get(b, at, size)
		}
	}
	if !bytes.Equal(b, countUp(16)) {
		t.Errorf("%d", b)
	}
}

// Promise 1.1, Lay.

func TestLayExamples(t *testing.T) {
	b := []byte{1, 2, 3, 4, 5, 6, 7, 8, 9}
	cases := []struct {
		at, size int
		n        uint64
		want     []byte
	}{
		{0, 1, 200, []byte{200, 2, 3, 4, 5, 6, 7, 8, 9}},
		{8, 1, 200, []byte{1, 2, 3, 4, 5, 6, 7, 8, 200}},
		{2, 2, 258, []byte{1, 2, 2, 1, 5, 6, 7, 8, 9}},
		{2, 2, 0x30102, []byte{1, 2, 2, 1, 5, 6, 7, 8, 9}},
		{1, 8, 0, []byte{1, 0, 0, 0, 0, 0, 0, 0, 0}},
		{0, 8, math.MaxUint64, []byte{255, 255, 255, 255, 255, 255, 255, 255, 9}},
	}
	for _, c := range cases {
		got, ok := num.Lay(b, c.at, c.size, c.n)
		if !ok || !bytes.Equal(got, c.want) {
			t.Errorf("Lay(b, %d, %d, %#x): %d, %t, not %d", c.at, c.size, c.n, got, ok, c.want)
		}
	}
}

func TestLayAtAllPlaces(t *testing.T) {
	for many := range 20 {
		b := countUp(many)
		for size := 1; size <= 8; size++ {
			for at := -12; at < many+12; at++ {
				got, ok := num.Lay(b, at, size, 0xf0e1d2c3b4a59687)
				there := at >= 0 && at+size <= many
				var want []byte
				if there {
					want = slices.Concat(b[:at], plainBytes(size, 0xf0e1d2c3b4a59687), b[at+size:])
				}
				if ok != there || !bytes.Equal(got, want) {
					t.Fatalf("of %d bytes, Lay(b, %d, %d, ..): %d, %t, not %d, %t", many, at, size, got, ok, want, there)
				}
			}
		}
		if !bytes.Equal(b, countUp(many)) {
			t.Fatalf("handed in, and changed: %d", b)
		}
	}
}

func TestLayWrongInputs(t *testing.T) {
	for _, b := range [][]byte{nil, {}, countUp(1), countUp(8), countUp(100)} {
		was := bytes.Clone(b)
		for _, size := range wrongSizes {
			for _, at := range append(farPlaces(), -1, 0, 1, 7, 8, 99, 100) {
				if got, ok := num.Lay(b, at, size, 5); ok || len(got) != 0 {
					t.Errorf("of %d bytes, Lay(b, %d, %d, 5): %d, %t", len(b), at, size, got, ok)
				}
			}
		}
		for size := 1; size <= 8; size++ {
			for _, at := range farPlaces() {
				if got, ok := num.Lay(b, at, size, 5); ok || len(got) != 0 {
					t.Errorf("of %d bytes, Lay(b, %d, %d, 5): %d, %t", len(b), at, size, got, ok)
				}
			}
		}
		if !bytes.Equal(b, was) {
			t.Errorf("handed in, and changed: %d", b)
		}
	}
}

func TestLayKeepsToTheLength(t *testing.T) {
	whole := countUp(16)
	b := whole[:4]
	if got, ok := num.Lay(b, 3, 2, 0); ok || len(got) != 0 {
		t.Errorf("Lay(b, 3, 2, 0): %d, %t", got, ok)
	}
	if got, ok := num.Lay(b, 4, 1, 0); ok || len(got) != 0 {
		t.Errorf("Lay(b, 4, 1, 0): %d, %t", got, ok)
	}
	if got, ok := num.Lay(b, 0, 4, 0); !ok || !bytes.Equal(got, []byte{0, 0, 0, 0}) {
		t.Errorf("Lay(b, 0, 4, 0): %d, %t", got, ok)
	}
	if !bytes.Equal(whole, countUp(16)) {
		t.Errorf("behind the length: %d", whole)
	}
}

func TestLayNeitherChangesNorKeeps(t *testing.T) {
	b := []byte{1, 2, 3, 4}
	first, _ := num.Lay(b, 1, 2, 0x908)
	second, _ := num.Lay(b, 1, 2, 0x908)
	if !bytes.Equal(b, []byte{1, 2, 3, 4}) {
		t.Fatalf("handed in, and changed: %d", b)
	}
	want := []byte{1, 8, 9, 4}
	for i := range b {
		b[i] = 77
		second[i] = 88
	}
	if !bytes.Equal(first, want) {
		t.Errorf("an answer that changed behind its call: %d", first)
	}
	for i := range first {
		first[i] = 99
	}
	if !bytes.Equal(b, []byte{77, 77, 77, 77}) {
		t.Errorf("an answer that shares memory with what was handed in: %d", b)
	}
}

// Promise 1.4, of bytes.

func TestWhatIsPutIsGot(t *testing.T) {
	for size := 1; size <= 8; size++ {
		b := num.Put(size, someNumbers...)
		for i, n := range someNumbers {
			if got, ok := num.Get(b, i*size, size); !ok || got != plainLow(size, n) {
				t.Errorf("size %d: %#x was put, %#x, %t is got", size, n, got, ok)
			}
		}
		if got, ok := num.Get(b, len(someNumbers)*size, size); ok || got != 0 {
			t.Errorf("size %d: %#x, %t is got behind all", size, got, ok)
		}
	}
}

func TestWhatIsLaidChangesNoOtherByte(t *testing.T) {
	b := countUp(19)
	for size := 1; size <= 8; size++ {
		for at := 0; at+size <= len(b); at++ {
			for _, n := range someNumbers {
				got, ok := num.Lay(b, at, size, n)
				if !ok || len(got) != len(b) {
					t.Fatalf("Lay(b, %d, %d, %#x): %d, %t", at, size, n, got, ok)
				}
				if back, ok := num.Get(got, at, size); !ok || back != plainLow(size, n) {
					t.Fatalf("at %d, size %d: %#x was laid, %#x is got", at, size, n, back)
				}
				if !bytes.Equal(got[:at], b[:at]) || !bytes.Equal(got[at+size:], b[at+size:]) {
					t.Fatalf("at %d, size %d: other bytes are changed: %d", at, size, got)
				}
			}
		}
	}
}
