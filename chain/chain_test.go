package chain_test

import (
	"math"
	"slices"
	"testing"

	"gunny/chain"
)

// Promise 3.1.

func TestNewIsEmpty(t *testing.T) {
	for _, size := range sizes {
		isAs(t, chain.New(size), &plain{size: size})
	}
}

func TestNewKeepsSizesWithinBounds(t *testing.T) {
	cases := []struct{ size, want int }{
		{math.MinInt, 0}, {math.MinInt + 1, 0}, {-1 << 32, 0}, {-4096, 0}, {-2, 0}, {-1, 0},
		{0, 0}, {1, 1}, {2, 2}, {4095, 4095}, {4096, 4096},
		{4097, 4096}, {4098, 4096}, {8192, 4096}, {1 << 31, 4096}, {1 << 32, 4096}, {1<<32 + 5, 4096},
		{math.MaxInt - 1, 4096}, {math.MaxInt, 4096},
	}
	for _, size := range cases {
		c, p := chain.New(size.size), &plain{size: size.want}
		if c == nil {
			t.Fatalf("New(%d): nil", size.size)
		}
		isAs(t, c, p)
		for _, n := range []int{-1, size.want - 1, size.want, 0} {
			if got, want := c.Push(n), p.push(n); got != want {
				t.Errorf("New(%d), Push(%d): %t", size.size, n, got)
			}
		}
		isAs(t, c, p)
	}
}

func TestPushHasDrop(t *testing.T) {
	for _, size := range sizes {
		c, p := chain.New(size), &plain{size: size}
		for _, n := range []int{0, size / 2, size - 1} {
			if n < 0 || n >= size {
				continue
			}
			c.Drop(n)
			p.drop(n)
			isAs(t, c, p)
			for range 2 {
				if !c.Push(n) || !c.Has(n) {
					t.Fatalf("of size %d, Push(%d)", size, n)
				}
				p.push(n)
				isAs(t, c, p)
			}
			if !c.Drop(n) || c.Has(n) {
				t.Fatalf("of size %d, Drop(%d)", size, n)
			}
			p.drop(n)
			isAs(t, c, p)
			if c.Drop(n) {
				t.Fatalf("of size %d, Drop(%d) once more: true", size, n)
			}
			isAs(t, c, p)
			c.Push(n)
			p.push(n)
		}
	}
}

func TestPushAgain(t *testing.T) {
	cases := []struct {
		name string
		n    int
		want []int
	}{
		{"the oldest one", 3, []int{0, 4, 1, 3}},
		{"the one behind it", 0, []int{3, 4, 1, 0}},
		{"the one ahead of the newest", 4, []int{3, 0, 1, 4}},
		{"the newest one", 1, []int{3, 0, 4, 1}},
		{"one that isn't there", 2, []int{3, 0, 4, 1, 2}},
	}
	for _, again := range cases {
		t.Run(again.name, func(t *testing.T) {
			c, _ := withNumbers(t, 5, []int{3, 0, 4, 1})
			for range 2 {
				if !c.Push(again.n) {
					t.Fatalf("Push(%d): false", again.n)
				}
				tellsRow(t, c, again.want)
			}
		})
	}
}

func TestDropAnywhere(t *testing.T) {
	cases := []struct {
		name string
		n    int
		want []int
	}{
		{"the oldest one", 3, []int{0, 4, 1}},
		{"the one behind it", 0, []int{3, 4, 1}},
		{"the one ahead of the newest", 4, []int{3, 0, 1}},
		{"the newest one", 1, []int{3, 0, 4}},
	}
	for _, gone := range cases {
		t.Run(gone.name, func(t *testing.T) {
			c, _ := withNumbers(t, 5, []int{3, 0, 4, 1})
			if !c.Drop(gone.n) || c.Has(gone.n) {
				t.Fatalf("Drop(%d)", gone.n)
			}
			tellsRow(t, c, gone.want)
			if c.Drop(gone.n) {
				t.Fatalf("Drop(%d) once more: true", gone.n)
			}
			tellsRow(t, c, gone.want)
			if !c.Push(gone.n) {
				t.Fatalf("Push(%d): false", gone.n)
			}
			tellsRow(t, c, append(gone.want, gone.n))
		})
	}
}

func TestEndsOfEveryFilling(t *testing.T) {
	everyFilling(t, func(t *testing.T, c *chain.Chain, p *plain) {
		for _, n := range slices.Clone(p.row[:min(2, len(p.row))]) {
			c.Push(n)
			p.push(n)
		}
		isAs(t, c, p)
		for _, n := range slices.Clone(p.row[max(0, len(p.row)-2):]) {
			if !c.Drop(n) || !p.drop(n) {
				t.Fatalf("Drop(%d)", n)
			}
		}
		isAs(t, c, p)
	})
}

func TestOneNumber(t *testing.T) {
	for _, size := range []int{1, 2, 5, 4096} {
		for _, n := range []int{0, size / 2, size - 1} {
			c := chain.New(size)
			for range 3 {
				if !c.Push(n) {
					t.Fatalf("of size %d, Push(%d): false", size, n)
				}
				tellsRow(t, c, []int{n})
			}
			if !c.Drop(n) {
				t.Fatalf("of size %d, Drop(%d): false", size, n)
			}
			isAs(t, c, &plain{size: size})
		}
	}
}

func TestFillAndEmpty(t *testing.T) {
	for _, size := range sizes {
		c, p := withNumbers(t, size, rising(size, func(int) bool { return true }))
		isAs(t, c, p)
		for n := size - 1; n >= 0; n-- {
			if c.Len() != n+1 || !c.Drop(n) {
				t.Fatalf("of size %d, Drop(%d)", size, n)
			}
		}
		isAs(t, c, &plain{size: size})
	}
}

func TestNumbersThatMayNotBeChangeNothing(t *testing.T) {
	everyFilling(t, func(t *testing.T, c *chain.Chain, p *plain) {
		for _, n := range outside(p.size) {
			if c.Push(n) {
				t.Errorf("Push(%d): true", n)
			}
			if c.Drop(n) {
				t.Errorf("Drop(%d): true", n)
			}
			if c.Has(n) {
				t.Errorf("Has(%d): true", n)
			}
		}
		isAs(t, c, p)
	})
}

func TestRefusedDropsChangeNothing(t *testing.T) {
	everyFilling(t, func(t *testing.T, c *chain.Chain, p *plain) {
		for n := range p.size {
			if !c.Has(n) && c.Drop(n) {
				t.Errorf("Drop(%d), which isn't there: true", n)
			}
		}
		isAs(t, c, p)
	})
}

func TestChainsAreApart(t *testing.T) {
	a, b := chain.New(7), chain.New(7)
	a.Push(3)
	a.Push(6)
	b.Push(6)
	b.Push(0)
	b.Push(3)
	a.Drop(3)
	tellsRow(t, a, []int{6})
	tellsRow(t, b, []int{6, 0, 3})
}

func TestNilChain(t *testing.T) {
	var c *chain.Chain
	check := func() {
		t.Helper()
		if c.Len() != 0 {
			t.Errorf("Len: %d", c.Len())
		}
		if n, ok := c.Oldest(); n != 0 || ok {
			t.Errorf("Oldest: %d, %t", n, ok)
		}
		if c.All() == nil {
			t.Fatal("All: nil")
		}
		for n := range c.All() {
			t.Errorf("All tells %d", n)
		}
	}
	check()
	for _, n := range append(outside(0), 0, 1, 4095) {
		if c.Has(n) || c.Push(n) || c.Drop(n) {
			t.Errorf("Has, Push or Drop of %d: true", n)
		}
		if newer, ok := c.Newer(n); newer != 0 || ok {
			t.Errorf("Newer(%d): %d, %t", n, newer, ok)
		}
	}
	check()
}
