package bits_test

import (
	"math"
	"testing"

	"gunny/bits"
)

// Promise 2.1.

func TestNewIsEmpty(t *testing.T) {
	for _, size := range sizes {
		isAs(t, bits.New(size), make(plain, size))
	}
}

func TestNewKeepsSizesWithinBounds(t *testing.T) {
	cases := []struct{ size, want int }{
		{math.MinInt, 0}, {math.MinInt + 1, 0}, {-1 << 32, 0}, {-4096, 0}, {-1, 0},
		{0, 0}, {1, 1}, {2, 2}, {4095, 4095}, {4096, 4096},
		{4097, 4096}, {4098, 4096}, {8192, 4096}, {1 << 31, 4096}, {1 << 32, 4096}, {1<<32 + 5, 4096},
		{math.MaxInt - 1, 4096}, {math.MaxInt, 4096},
	}
	for _, c := range cases {
		s := bits.New(c.size)
		if s == nil {
			t.Fatalf("New(%d): nil", c.size)
		}
		isAs(t, s, make(plain, c.want))
		if got := s.Put(c.want - 1); got != (c.want > 0) {
			t.Errorf("New(%d), Put(%d): %t", c.size, c.want-1, got)
		}
		if s.Put(c.want) {
			t.Errorf("New(%d), Put(%d): true", c.size, c.want)
		}
	}
}

func TestPutHasDrop(t *testing.T) {
	for _, size := range sizes {
		s, p := bits.New(size), make(plain, size)
		for _, n := range []int{0, size / 2, size - 1} {
			if n < 0 || n >= size {
				continue
			}
			s.Drop(n)
			p.drop(n)
			if s.Has(n) || !s.Put(n) || !s.Has(n) {
				t.Fatalf("of size %d, Put(%d)", size, n)
			}
			p.put(n)
			isAs(t, s, p)
			if s.Put(n) {
				t.Fatalf("of size %d, Put(%d) once more: true", size, n)
			}
			isAs(t, s, p)
			if !s.Drop(n) || s.Has(n) {
				t.Fatalf("of size %d, Drop(%d)", size, n)
			}
			p.drop(n)
			isAs(t, s, p)
			if s.Drop(n) {
				t.Fatalf("of size %d, Drop(%d) once more: true", size, n)
			}
			isAs(t, s, p)
			s.Put(n)
			p.put(n)
		}
	}
}

func TestEachNumberIsApart(t *testing.T) {
	const size = 200
	for n := range size {
		alone, p := bits.New(size), make(plain, size)
		alone.Put(n)
		p.put(n)
		isAs(t, alone, p)
		rest, p := withNumbers(t, size, func(int) bool { return true })
		rest.Drop(n)
		p.drop(n)
		isAs(t, rest, p)
	}
}

func TestFillAndEmpty(t *testing.T) {
	for _, size := range sizes {
		s, p := withNumbers(t, size, func(int) bool { return true })
		isAs(t, s, p)
		for n := size - 1; n >= 0; n-- {
			if s.Len() != n+1 || !s.Drop(n) {
				t.Fatalf("of size %d, Drop(%d)", size, n)
			}
		}
		isAs(t, s, make(plain, size))
	}
}

func TestNumbersThatMayNotBeChangeNothing(t *testing.T) {
	everyFilling(t, func(t *testing.T, s *bits.Set, p plain) {
		for _, n := range outside(len(p)) {
			if s.Put(n) {
				t.Errorf("Put(%d): true", n)
			}
			if s.Drop(n) {
				t.Errorf("Drop(%d): true", n)
			}
			if s.Has(n) {
				t.Errorf("Has(%d): true", n)
			}
		}
		isAs(t, s, p)
	})
}

func TestRefusalsChangeNothing(t *testing.T) {
	everyFilling(t, func(t *testing.T, s *bits.Set, p plain) {
		for n := range p {
			if p[n] && s.Put(n) {
				t.Errorf("Put(%d), which is in it: true", n)
			}
			if !p[n] && s.Drop(n) {
				t.Errorf("Drop(%d), which isn't in it: true", n)
			}
		}
		isAs(t, s, p)
	})
}

func TestAskingChangesNothing(t *testing.T) {
	everyFilling(t, func(t *testing.T, s *bits.Set, p plain) {
		for range 2 {
			isAs(t, s, p)
		}
	})
}

func TestSetsAreApart(t *testing.T) {
	a, b := bits.New(70), bits.New(70)
	a.Put(3)
	a.Put(69)
	b.Take()
	p, q := make(plain, 70), make(plain, 70)
	p[3], p[69], q[0] = true, true, true
	isAs(t, a, p)
	isAs(t, b, q)
}

func TestNilSet(t *testing.T) {
	var s *bits.Set
	check := func() {
		t.Helper()
		if s.Size() != 0 || s.Len() != 0 {
			t.Errorf("Size: %d, Len: %d", s.Size(), s.Len())
		}
		if n, ok := s.First(); n != 0 || ok {
			t.Errorf("First: %d, %t", n, ok)
		}
		if n, ok := s.Take(); n != 0 || ok {
			t.Errorf("Take: %d, %t", n, ok)
		}
		if s.All() == nil {
			t.Fatal("All: nil")
		}
		for n := range s.All() {
			t.Errorf("All tells %d", n)
		}
	}
	check()
	for _, n := range append(outside(0), 0, 1, 63, 64, 4095) {
		if s.Has(n) || s.Put(n) || s.Drop(n) {
			t.Errorf("Has, Put or Drop of %d: true", n)
		}
	}
	check()
}
