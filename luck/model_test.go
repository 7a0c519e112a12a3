package luck_test

import (
	"slices"
	"testing"

	"gunny/luck"
)

// pair is luck beside the choices that it was made of. What luck must tell is
// counted anew from these each time, so that it shares no way of working with luck.
type pair struct {
	*testing.T
	l       *luck.Luck
	choices []bool
	asked   int
}

func newPair(t *testing.T, choices ...bool) *pair {
	t.Helper()
	l := luck.New(choices...)
	if l == nil {
		t.Fatalf("New(%t): nil", choices)
	}
	return &pair{t, l, slices.Clone(choices), 0}
}

// fails is what the next access must tell.
func (b *pair) fails() bool {
	return b.asked < len(b.choices) && b.choices[b.asked]
}

// failed is how many must have failed.
func (b *pair) failed() int {
	many := 0
	for _, fails := range b.choices[:min(b.asked, len(b.choices))] {
		if fails {
			many++
		}
	}
	return many
}

func (b *pair) ask() {
	b.Helper()
	want := b.fails()
	b.asked++
	if got := b.l.Fails(); got != want {
		b.Fatalf("of %d choices, access %d: %t", len(b.choices), b.asked, got)
	}
}

func (b *pair) tellsSame() {
	b.Helper()
	asked, failed, left := b.l.Asked(), b.l.Failed(), b.l.Left()
	if asked != b.asked || failed != b.failed() || left != max(0, len(b.choices)-b.asked) {
		b.Fatalf("of %d choices, behind %d accesses: Asked %d, Failed %d, Left %d",
			len(b.choices), b.asked, asked, failed, left)
	}
}

// isAs asks for all accesses that are left, and for some behind the last choice.
func (b *pair) isAs() {
	b.Helper()
	b.tellsSame()
	for b.asked < len(b.choices)+5 {
		b.ask()
		b.tellsSame()
	}
}

// everyRow does a thing for every row of so many choices at most.
func everyRow(most int, do func(choices []bool)) {
	for many := range most + 1 {
		for which := range 1 << many {
			choices := make([]bool, many)
			for at := range choices {
				choices[at] = which>>at&1 == 1
			}
			do(choices)
		}
	}
}

// mixed is many choices, always the same ones, in no order that is seen at once.
func mixed(many int) []bool {
	choices := make([]bool, many)
	seed := uint32(many) + 7
	for at := range choices {
		seed = seed*1664525 + 1013904223
		choices[at] = seed>>24%3 == 0
	}
	return choices
}

func allOf(many int, fails bool) []bool {
	return slices.Repeat([]bool{fails}, many)
}
