package bits_test

import (
	"slices"
	"testing"

	"gunny/bits"
)

// Promise 2.2, First and Take.

func TestTakeExample(t *testing.T) {
	s := bits.New(3)
	take := func(want int, wantOK bool) {
		t.Helper()
		if n, ok := s.Take(); n != want || ok != wantOK {
			t.Fatalf("Take: %d, %t, not %d, %t", n, ok, want, wantOK)
		}
	}
	take(0, true)
	take(1, true)
	if !s.Drop(0) {
		t.Fatal("Drop(0)")
	}
	take(0, true)
	take(2, true)
	take(0, false)
	take(0, false)
	if s.Len() != 3 {
		t.Fatalf("Len: %d", s.Len())
	}
}

func TestTakeIsFirst(t *testing.T) {
	everyFilling(t, func(t *testing.T, s *bits.Set, p plain) {
		for {
			first, ok := s.First()
			if wantN, wantOK := p.first(); first != wantN || ok != wantOK {
				t.Fatalf("First: %d, %t, not %d, %t", first, ok, wantN, wantOK)
			}
			if ok == s.Has(first) && len(p) > 0 {
				t.Fatalf("First: %d, %t; Has: %t", first, ok, ok)
			}
			n, taken := s.Take()
			if n != first || taken != ok {
				t.Fatalf("First: %d, %t; Take: %d, %t", first, ok, n, taken)
			}
			if !taken {
				break
			}
			if !s.Has(n) {
				t.Fatalf("%d was taken, and isn't in it", n)
			}
			p.take()
		}
		isAs(t, s, p)
		if s.Len() != len(p) {
			t.Fatalf("%d of %d are in it", s.Len(), len(p))
		}
	})
}

func TestTakeOfAFullSetChangesNothing(t *testing.T) {
	for _, size := range sizes {
		s, p := withNumbers(t, size, func(int) bool { return true })
		for range 3 {
			if n, ok := s.First(); n != 0 || ok {
				t.Fatalf("of size %d, First: %d, %t", size, n, ok)
			}
			if n, ok := s.Take(); n != 0 || ok {
				t.Fatalf("of size %d, Take: %d, %t", size, n, ok)
			}
		}
		isAs(t, s, p)
	}
}

func TestTheOneGapIsTaken(t *testing.T) {
	for _, size := range sizes {
		for _, gap := range []int{0, 1, 62, 63, 64, 65, size / 2, size - 2, size - 1} {
			if gap < 0 || gap >= size {
				continue
			}
			s, p := withNumbers(t, size, func(n int) bool { return n != gap })
			isAs(t, s, p)
			if n, ok := s.Take(); n != gap || !ok {
				t.Fatalf("of size %d, without %d, Take: %d, %t", size, gap, n, ok)
			}
			p.take()
			isAs(t, s, p)
		}
	}
}

// Promise 2.2, All.

func TestAllRises(t *testing.T) {
	s := bits.New(4096)
	for _, n := range []int{4095, 64, 0, 63, 1000, 2} {
		s.Put(n)
	}
	if got := slices.Collect(s.All()); !slices.Equal(got, []int{0, 2, 63, 64, 1000, 4095}) {
		t.Errorf("%d", got)
	}
}

func TestAllStopsEarly(t *testing.T) {
	everyFilling(t, func(t *testing.T, s *bits.Set, p plain) {
		all := p.all()
		for _, many := range []int{1, 2, len(all) - 1, len(all)} {
			if many < 1 || many > len(all) {
				continue
			}
			var got []int
			s.All()(func(n int) bool {
				got = append(got, n)
				return len(got) < many
			})
			if !slices.Equal(got, all[:many]) {
				t.Errorf("%d are wanted: %d", many, got)
			}
		}
		isAs(t, s, p)
	})
}

func TestAllIsToldAsOftenAsWanted(t *testing.T) {
	s := bits.New(10)
	s.Put(4)
	s.Put(9)
	all := s.All()
	for range all {
		break
	}
	for range 2 {
		if got := slices.Collect(all); !slices.Equal(got, []int{4, 9}) {
			t.Errorf("%d", got)
		}
	}
}

func TestAllWhileNumbersAreDropped(t *testing.T) {
	s, p := withNumbers(t, 130, func(int) bool { return true })
	var got []int
	for n := range s.All() {
		got = append(got, n)
		s.Drop(n)
	}
	if !slices.Equal(got, p.all()) {
		t.Errorf("%d", got)
	}
	isAs(t, s, make(plain, 130))
}

// Promise 2.3.

func TestWhatIsPutStays(t *testing.T) {
	s, p := bits.New(300), make(plain, 300)
	for step := range 300 {
		n := step * 7 % 300
		s.Put(n)
		p.put(n)
		s.Put(n)
		s.Drop(-1 - n)
		s.Drop(300 + n)
		isAs(t, s, p)
	}
}

func TestNobodyIsToldANumberTwice(t *testing.T) {
	for _, size := range sizes {
		s := bits.New(size)
		told := map[int]int{}
		for {
			n, ok := s.Take()
			if !ok {
				break
			}
			if told[n]++; told[n] > 1 || n < 0 || n >= size {
				t.Fatalf("of size %d, %d is told", size, n)
			}
		}
		if len(told) != size {
			t.Fatalf("of size %d, %d were told", size, len(told))
		}
		for n := 0; n < size; n += 5 {
			s.Drop(n)
		}
		for n := 0; n < size; n += 5 {
			if got, ok := s.Take(); got != n || !ok {
				t.Fatalf("of size %d, dropped and taken: %d, %t, not %d", size, got, ok, n)
			}
		}
		if n, ok := s.Take(); n != 0 || ok {
			t.Fatalf("of size %d, behind all: %d, %t", size, n, ok)
		}
	}
}

// TestManySteps does a long row of steps, always the same one, beside a plain set.
func TestManySteps(t *testing.T) {
	for _, size := range []int{0, 1, 2, 3, 64, 65, 130, 4096} {
		s, p := bits.New(size), make(plain, size)
		seed := uint32(size + 1)
		next := func() int {
			seed = seed*1664525 + 1013904223
			return int(seed >> 8)
		}
		for step := range 3000 {
			n := next()%(size+4) - 2
			switch next() % 5 {
			case 0, 1:
				if got, want := s.Put(n), p.put(n); got != want {
					t.Fatalf("of size %d, step %d, Put(%d): %t", size, step, n, got)
				}
			case 2, 3:
				if got, want := s.Drop(n), p.drop(n); got != want {
					t.Fatalf("of size %d, step %d, Drop(%d): %t", size, step, n, got)
				}
			default:
				got, ok := s.Take()
				if want, wantOK := p.take(); got != want || ok != wantOK {
					t.Fatalf("of size %d, step %d, Take: %d, %t", size, step, got, ok)
				}
			}
			if step%16 == 0 || size < 200 {
				isAs(t, s, p)
			}
		}
	}
}
