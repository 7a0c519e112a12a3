package luck_test

import (
	"testing"

	"gunny/luck"
)

// Promise 7.2.

// told asks for so many accesses, and counts which of these fail.
func told(l *luck.Luck, accesses int) int {
	many := 0
	for range accesses {
		if l.Fails() {
			many++
		}
	}
	return many
}

func says(choices []bool) int {
	many := 0
	for _, fails := range choices {
		if fails {
			many++
		}
	}
	return many
}

func TestAsManyFailAsChoicesSay(t *testing.T) {
	everyRow(8, func(choices []bool) {
		for accesses := range len(choices) + 4 {
			l := luck.New(choices...)
			want := says(choices[:min(accesses, len(choices))])
			if got := told(l, accesses); got != want || l.Failed() != want {
				t.Fatalf("%t, %d accesses: %d fail, Failed %d", choices, accesses, got, l.Failed())
			}
		}
	})
}

func TestAsManyFailOfMany(t *testing.T) {
	choices := mixed(4000)
	for _, accesses := range []int{0, 1, 63, 64, 1000, 3999, 4000, 4001, 9000} {
		l := luck.New(choices...)
		want := says(choices[:min(accesses, len(choices))])
		if got := told(l, accesses); got != want || l.Failed() != want {
			t.Errorf("%d accesses: %d fail, Failed %d, not %d", accesses, got, l.Failed(), want)
		}
	}
}

func TestAllFailAndNoneFails(t *testing.T) {
	for _, many := range []int{1, 2, 9, 400, 4000} {
		if l := luck.New(allOf(many, true)...); told(l, many+9) != many || l.Failed() != many {
			t.Errorf("%d that fail: Failed %d", many, l.Failed())
		}
		if l := luck.New(allOf(many, false)...); told(l, many+9) != 0 || l.Failed() != 0 {
			t.Errorf("%d that don't: Failed %d", many, l.Failed())
		}
	}
}

// Choices that were asked for, and those that weren't, are all choices.
func TestAskedAndLeftAreAll(t *testing.T) {
	for _, many := range []int{0, 1, 5, 300} {
		l := luck.New(mixed(many)...)
		for range many {
			if l.Asked()+l.Left() != many || l.Failed() > l.Asked() {
				t.Fatalf("of %d: Asked %d, Failed %d, Left %d", many, l.Asked(), l.Failed(), l.Left())
			}
			l.Fails()
		}
		if l.Asked() != many || l.Left() != 0 {
			t.Errorf("of %d: Asked %d, Left %d", many, l.Asked(), l.Left())
		}
	}
}

// Luck of one list is apart from other luck of it.
func TestLucksAreApart(t *testing.T) {
	list := []bool{true, false, true, true, false}
	a, b, c := newPair(t, list...), newPair(t, list...), newPair(t, list[1:]...)
	a.ask()
	a.ask()
	b.ask()
	c.ask()
	c.ask()
	c.ask()
	b.tellsSame()
	a.isAs()
	b.isAs()
	c.isAs()
}
