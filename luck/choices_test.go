package luck_test

import (
	"slices"
	"testing"

	"gunny/api"
	"gunny/luck"
)

// Promise 7.1.

func TestExample(t *testing.T) {
	l := luck.New(true, false)
	for at, want := range []bool{true, false, false} {
		if got := l.Fails(); got != want {
			t.Errorf("access %d: %t", at+1, got)
		}
	}
}

// What luck tells at first and behind each access is held against numbers
// that are written out here.
func TestStepByStep(t *testing.T) {
	type step struct {
		fails               bool
		asked, failed, left int
	}
	cases := []struct {
		name    string
		choices []bool
		steps   []step
	}{
		{"none", nil, []step{{false, 1, 0, 0}, {false, 2, 0, 0}, {false, 3, 0, 0}}},
		{"none, empty", []bool{}, []step{{false, 1, 0, 0}, {false, 2, 0, 0}}},
		{"true", []bool{true}, []step{{true, 1, 1, 0}, {false, 2, 1, 0}, {false, 3, 1, 0}, {false, 4, 1, 0}}},
		{"false", []bool{false}, []step{{false, 1, 0, 0}, {false, 2, 0, 0}, {false, 3, 0, 0}}},
		{"true, true", []bool{true, true}, []step{{true, 1, 1, 1}, {true, 2, 2, 0}, {false, 3, 2, 0}, {false, 4, 2, 0}}},
		{"true, false", []bool{true, false}, []step{{true, 1, 1, 1}, {false, 2, 1, 0}, {false, 3, 1, 0}}},
		{"false, true", []bool{false, true}, []step{{false, 1, 0, 1}, {true, 2, 1, 0}, {false, 3, 1, 0}, {false, 4, 1, 0}}},
		{"false, false", []bool{false, false}, []step{{false, 1, 0, 1}, {false, 2, 0, 0}, {false, 3, 0, 0}}},
		{"four", []bool{false, true, true, false},
			[]step{{false, 1, 0, 3}, {true, 2, 1, 2}, {true, 3, 2, 1}, {false, 4, 2, 0}, {false, 5, 2, 0}}},
	}
	for _, c := range cases {
		l := luck.New(c.choices...)
		if l.Asked() != 0 || l.Failed() != 0 || l.Left() != len(c.choices) {
			t.Errorf("%s, at first: Asked %d, Failed %d, Left %d", c.name, l.Asked(), l.Failed(), l.Left())
		}
		for at, want := range c.steps {
			if got := (step{l.Fails(), l.Asked(), l.Failed(), l.Left()}); got != want {
				t.Errorf("%s, access %d: %v, not %v", c.name, at+1, got, want)
			}
		}
	}
}

func TestNoChoicesAtAll(t *testing.T) {
	newPair(t).isAs()
	newPair(t, nil...).isAs()
	newPair(t, []bool{}...).isAs()
	l := luck.New()
	for at := range 10000 {
		if l.Fails() || l.Asked() != at+1 || l.Failed() != 0 || l.Left() != 0 {
			t.Fatalf("access %d: Asked %d, Failed %d, Left %d", at+1, l.Asked(), l.Failed(), l.Left())
		}
	}
}

func TestEveryRowOfChoices(t *testing.T) {
	everyRow(10, func(choices []bool) {
		newPair(t, choices...).isAs()
	})
}

func TestBehindTheLastChoice(t *testing.T) {
	for _, many := range []int{1, 2, 3, 8, 100} {
		for _, fails := range []bool{false, true} {
			b := newPair(t, allOf(many, fails)...)
			for range many {
				b.ask()
			}
			failed := b.l.Failed()
			for behind := range 3 * many {
				if b.l.Fails() || b.l.Asked() != many+behind+1 || b.l.Failed() != failed || b.l.Left() != 0 {
					t.Fatalf("%d times %t, %d behind: Asked %d, Failed %d, Left %d",
						many, fails, behind+1, b.l.Asked(), b.l.Failed(), b.l.Left())
				}
			}
		}
	}
}

func TestManyChoices(t *testing.T) {
	for _, many := range []int{63, 64, 65, 255, 256, 257, api.MaxChoices - 1, api.MaxChoices, api.MaxChoices + 1} {
		for _, choices := range [][]bool{mixed(many), allOf(many, true), allOf(many, false)} {
			newPair(t, choices...).isAs()
		}
	}
}

func TestVeryManyChoices(t *testing.T) {
	choices := mixed(1 << 20)
	choices[len(choices)-1] = true
	b := newPair(t, choices...)
	for range choices {
		b.ask()
	}
	b.tellsSame()
	b.ask()
	b.tellsSame()
}

// Luck has the choices that it was made of, whatever becomes of the list.
func TestListIsNotKept(t *testing.T) {
	everyRow(6, func(choices []bool) {
		for asked := range len(choices) + 1 {
			list := slices.Clone(choices)
			b := newPair(t, list...)
			for range asked {
				b.ask()
			}
			for at := range list {
				list[at] = !list[at]
			}
			b.isAs()
		}
	})
}

func TestListIsNotChanged(t *testing.T) {
	everyRow(6, func(choices []bool) {
		list := slices.Clone(choices)
		newPair(t, list...).isAs()
		if !slices.Equal(list, choices) {
			t.Fatalf("%t became %t", choices, list)
		}
	})
}

// Behind a list's length nothing is read, nor written.
func TestBehindTheListsLength(t *testing.T) {
	for _, rest := range []bool{false, true} {
		room := append([]bool{true, false, true}, allOf(20, rest)...)
		was := slices.Clone(room)
		for many := range 4 {
			b := newPair(t, room[:many]...)
			for range 23 {
				b.ask()
				b.tellsSame()
			}
		}
		if !slices.Equal(room, was) {
			t.Errorf("%t became %t", was, room)
		}
	}
}

func TestAskingForCountsChangesNothing(t *testing.T) {
	everyRow(6, func(choices []bool) {
		b := newPair(t, choices...)
		for range len(choices) + 3 {
			for range 4 {
				b.tellsSame()
				b.l.Left()
				b.l.Left()
				b.l.Failed()
				b.l.Failed()
				b.l.Asked()
				b.l.Asked()
			}
			b.ask()
		}
		b.tellsSame()
	})
}

// Nobody has to ask for the counts in between for them to be right at the end.
func TestCountsAreRightUnasked(t *testing.T) {
	everyRow(6, func(choices []bool) {
		for asked := range len(choices) + 4 {
			b := newPair(t, choices...)
			for range asked {
				b.ask()
			}
			b.tellsSame()
		}
	})
}

func TestNilLuck(t *testing.T) {
	var l *luck.Luck
	for range 5 {
		if l.Fails() {
			t.Error("Fails: true")
		}
		if l.Asked() != 0 || l.Failed() != 0 || l.Left() != 0 {
			t.Errorf("Asked %d, Failed %d, Left %d", l.Asked(), l.Failed(), l.Left())
		}
	}
}
