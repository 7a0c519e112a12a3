package chain_test

import (
	"slices"
	"testing"

	"gunny/chain"
)

// Promise 3.2.

func TestExample(t *testing.T) {
	c := chain.New(5)
	for _, n := range []int{4, 2, 4} {
		if !c.Push(n) {
			t.Fatalf("Push(%d): false", n)
		}
	}
	if n, ok := c.Oldest(); n != 2 || !ok {
		t.Fatalf("Oldest: %d, %t", n, ok)
	}
	if n, ok := c.Newer(2); n != 4 || !ok {
		t.Fatalf("Newer(2): %d, %t", n, ok)
	}
	if n, ok := c.Newer(4); n != 0 || ok {
		t.Fatalf("Newer(4): %d, %t", n, ok)
	}
	tellsRow(t, c, []int{2, 4})
}

// Number 0 is told apart from no number by the bool alone.
func TestNoughtIsANumber(t *testing.T) {
	c := chain.New(3)
	c.Push(0)
	if n, ok := c.Oldest(); n != 0 || !ok {
		t.Errorf("Oldest: %d, %t", n, ok)
	}
	c.Push(2)
	c.Push(0)
	if n, ok := c.Newer(2); n != 0 || !ok {
		t.Errorf("Newer(2): %d, %t", n, ok)
	}
	if n, ok := c.Newer(0); n != 0 || ok {
		t.Errorf("Newer(0): %d, %t", n, ok)
	}
}

func TestNewerOfEach(t *testing.T) {
	everyFilling(t, func(t *testing.T, c *chain.Chain, p *plain) {
		if p.size > 100 {
			return // tellsRow went through all
		}
		for n := -2; n < p.size+2; n++ {
			got, ok := c.Newer(n)
			if want, wantOK := p.newer(n); got != want || ok != wantOK {
				t.Errorf("Newer(%d): %d, %t, not %d, %t", n, got, ok, want, wantOK)
			}
		}
	})
}

func TestAskingChangesNothing(t *testing.T) {
	everyFilling(t, func(t *testing.T, c *chain.Chain, p *plain) {
		for range 2 {
			isAs(t, c, p)
		}
	})
}

func TestAllStopsEarly(t *testing.T) {
	everyFilling(t, func(t *testing.T, c *chain.Chain, p *plain) {
		for _, many := range []int{1, 2, len(p.row) - 1, len(p.row)} {
			if many < 1 || many > len(p.row) {
				continue
			}
			var got []int
			c.All()(func(n int) bool {
				got = append(got, n)
				return len(got) < many
			})
			if !slices.Equal(got, p.row[:many]) {
				t.Errorf("%d are wanted: %d", many, got)
			}
		}
		isAs(t, c, p)
	})
}

func TestAllIsToldAsOftenAsWanted(t *testing.T) {
	c, _ := withNumbers(t, 10, []int{9, 4})
	all := c.All()
	for range all {
		break
	}
	for range 2 {
		if got := slices.Collect(all); !slices.Equal(got, []int{9, 4}) {
			t.Errorf("%d", got)
		}
	}
	c.Push(9)
	c.Push(0)
	if got := slices.Collect(all); !slices.Equal(got, []int{4, 9, 0}) {
		t.Errorf("behind a push: %d", got)
	}
}

func TestAllWithinAll(t *testing.T) {
	c, _ := withNumbers(t, 4, []int{2, 0, 3})
	var got []int
	for n := range c.All() {
		for m := range c.All() {
			got = append(got, 10*n+m)
		}
	}
	if !slices.Equal(got, []int{22, 20, 23, 2, 0, 3, 32, 30, 33}) {
		t.Errorf("%d", got)
	}
}

func TestAllWhileNumbersAreDropped(t *testing.T) {
	everyFilling(t, func(t *testing.T, c *chain.Chain, p *plain) {
		var got []int
		for n := range c.All() {
			got = append(got, n)
			c.Drop(n)
		}
		if !slices.Equal(got, p.row) {
			t.Errorf("%d, not %d", got, p.row)
		}
		isAs(t, c, &plain{size: p.size})
	})
}

func TestAllTellsNoneThatIsGone(t *testing.T) {
	c, _ := withNumbers(t, 4, []int{2, 0, 3, 1})
	var got []int
	for n := range c.All() {
		got = append(got, n)
		c.Drop(0)
		c.Drop(1)
	}
	if !slices.Equal(got, []int{2, 3}) {
		t.Errorf("%d", got)
	}
}

// A range that pushes would never end if what it pushes were told to it.
func TestAllEndsWhileNumbersArePushed(t *testing.T) {
	everyFilling(t, func(t *testing.T, c *chain.Chain, p *plain) {
		row := slices.Clone(p.row)
		var got []int
		for n := range c.All() {
			got = append(got, n)
			c.Push(n)
			if len(got) > len(row) {
				t.Fatal("more are told than there are")
			}
		}
		if !slices.Equal(got, row) {
			t.Errorf("%d, not %d", got, row)
		}
		isAs(t, c, p)
	})
}

// Promise 3.3.

func TestOrderOfLastPushes(t *testing.T) {
	pushes := []int{5, 1, 5, 3, 1, 1, 0, 7, 3, 5, 2, 7}
	for many := range len(pushes) + 1 {
		c := chain.New(8)
		last := map[int]int{}
		for at, n := range pushes[:many] {
			c.Push(n)
			last[n] = at
		}
		var want []int
		for at, n := range pushes[:many] {
			if last[n] == at {
				want = append(want, n)
			}
		}
		tellsRow(t, c, want)
	}
}

func TestDropsKeepTheOrderOfOthers(t *testing.T) {
	row := []int{6, 2, 0, 5, 3, 1, 4}
	for gone := range 1 << len(row) {
		c, _ := withNumbers(t, len(row), row)
		var want []int
		for at, n := range row {
			if gone>>at&1 == 0 {
				want = append(want, n)
			} else if !c.Drop(n) {
				t.Fatalf("Drop(%d): false", n)
			}
		}
		tellsRow(t, c, want)
	}
}

func TestOldestOnesComeOut(t *testing.T) {
	everyFilling(t, func(t *testing.T, c *chain.Chain, p *plain) {
		for _, want := range p.row {
			n, ok := c.Oldest()
			if n != want || !ok || !c.Drop(n) {
				t.Fatalf("%d, %t, not %d", n, ok, want)
			}
		}
		if n, ok := c.Oldest(); n != 0 || ok {
			t.Fatalf("behind all: %d, %t", n, ok)
		}
	})
}

// TestEveryShortRow does every row of a few steps on small chains beside the plain one.
func TestEveryShortRow(t *testing.T) {
	for size := range 4 {
		var steps []int // pushes are n, drops -1-n
		for n := range size {
			steps = append(steps, n, -1-n)
		}
		var follow func(row []int)
		follow = func(row []int) {
			c, p := chain.New(size), &plain{size: size}
			for _, step := range row {
				if step >= 0 {
					c.Push(step)
					p.push(step)
				} else if got, want := c.Drop(-1-step), p.drop(-1-step); got != want {
					t.Fatalf("of size %d, %d, Drop: %t", size, row, got)
				}
			}
			tellsRow(t, c, p.row)
			if len(row) < 5 {
				for _, step := range steps {
					follow(append(slices.Clone(row), step))
				}
			}
		}
		follow(nil)
	}
}

// TestManySteps does a long row of steps, always the same one, beside the plain chain.
func TestManySteps(t *testing.T) {
	for _, size := range []int{0, 1, 2, 3, 5, 64, 130, 4096} {
		c, p := chain.New(size), &plain{size: size}
		seed := uint32(size + 1)
		next := func() int {
			seed = seed*1664525 + 1013904223
			return int(seed >> 8)
		}
		for step := range 3000 {
			n := next()%(size+4) - 2
			if next()%5 < 3 {
				if got, want := c.Push(n), p.push(n); got != want {
					t.Fatalf("of size %d, step %d, Push(%d): %t", size, step, n, got)
				}
			} else if got, want := c.Drop(n), p.drop(n); got != want {
				t.Fatalf("of size %d, step %d, Drop(%d): %t", size, step, n, got)
			}
			oldest, ok := c.Oldest()
			if want, wantOK := p.oldest(); oldest != want || ok != wantOK {
				t.Fatalf("of size %d, step %d, Oldest: %d, %t", size, step, oldest, ok)
			}
			newer, ok := c.Newer(n)
			if want, wantOK := p.newer(n); newer != want || ok != wantOK {
				t.Fatalf("of size %d, step %d, Newer(%d): %d, %t", size, step, n, newer, ok)
			}
			if c.Has(n) != p.has(n) {
				t.Fatalf("of size %d, step %d, Has(%d): %t", size, step, n, c.Has(n))
			}
			if step%16 == 0 || size < 200 {
				isAs(t, c, p)
			}
		}
	}
}
