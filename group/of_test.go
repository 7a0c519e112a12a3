package group_test

import (
	"math"
	"testing"

	"gunny/group"
)

// Promise 18.1: Of

func isOf(t *testing.T, used, many, want int) {
	t.Helper()
	if got := group.Of(used, many); got != want {
		t.Fatalf("Of(%d, %d): %d, not %d", used, many, got, want)
	}
}

func TestGroupsAreNumbers(t *testing.T) {
	got := [...]int{group.Empty, group.Few, group.Half, group.Most, group.Full}
	if got != [...]int{0, 1, 2, 3, 4} {
		t.Fatalf("groups: %v", got)
	}
}

func TestOfAllNumbersOfObjects(t *testing.T) {
	for many := 1; many <= 64; many++ {
		for used := -3; used <= many+3; used++ {
			isOf(t, used, many, plainOf(used, many))
		}
	}
}

// Each third of so many is so many objects: those are gone through one by one.
func TestOfThirds(t *testing.T) {
	for third := 1; third <= 50; third++ {
		many := 3 * third
		isOf(t, 0, many, group.Empty)
		for used := 1; used <= third; used++ {
			isOf(t, used, many, group.Few)
			isOf(t, third+used, many, group.Half)
			if used < third {
				isOf(t, 2*third+used, many, group.Most)
			}
		}
		isOf(t, many, many, group.Full)
	}
}

func TestOfEdges(t *testing.T) {
	for _, c := range []struct{ used, many, want int }{
		{0, 1, group.Empty}, {1, 1, group.Full}, {-1, 1, group.Empty}, {2, 1, group.Full},
		{0, 2, group.Empty}, {1, 2, group.Half}, {2, 2, group.Full},
		{0, 3, group.Empty}, {1, 3, group.Few}, {2, 3, group.Half}, {3, 3, group.Full},
		{1, 4, group.Few}, {2, 4, group.Half}, {3, 4, group.Most}, {4, 4, group.Full},
		{1, 5, group.Few}, {2, 5, group.Half}, {3, 5, group.Half}, {4, 5, group.Most}, {5, 5, group.Full},
		{2, 6, group.Few}, {3, 6, group.Half}, {4, 6, group.Half}, {5, 6, group.Most},
		{2, 7, group.Few}, {3, 7, group.Half}, {4, 7, group.Half}, {5, 7, group.Most}, {6, 7, group.Most},
		{21, 64, group.Few}, {22, 64, group.Half}, {42, 64, group.Half}, {43, 64, group.Most}, {63, 64, group.Most}, {64, 64, group.Full}, {65, 64, group.Full},
	} {
		isOf(t, c.used, c.many, c.want)
	}
}

// Without objects all are Full, whatever is taken.
func TestOfNoObjects(t *testing.T) {
	for _, many := range []int{0, -1, -2, -3, -64, -1 << 32, -1 << 62, math.MinInt + 1, math.MinInt} {
		for _, used := range []int{0, 1, -1, many - 1, many, many + 1, many / 2, -many, 64, math.MinInt, math.MaxInt} {
			isOf(t, used, many, group.Full)
		}
	}
}

func TestOfNoneTaken(t *testing.T) {
	for _, used := range []int{0, -1, -2, -64, -1 << 32, -1 << 62, math.MinInt + 1, math.MinInt} {
		for _, many := range []int{1, 2, 3, 64, 1 << 31, 1 << 32, 1 << 62, math.MaxInt - 1, math.MaxInt} {
			isOf(t, used, many, group.Empty)
		}
	}
}

// Three times as many, or twice, are more than an int has room for.
func TestOfGreatest(t *testing.T) {
	for _, many := range []int{math.MaxInt, math.MaxInt - 1, math.MaxInt - 2, math.MaxInt - 3, 1<<62 + 1, 1 << 62, 1<<62 - 1, 1<<62 - 2, 1 << 61, 1 << 33, 1 << 32, 1<<32 - 1, 1 << 31} {
		for _, at := range []int{1, many / 6, many / 3, many / 2, many / 3 * 2, many / 6 * 5, many - 1} {
			for used := at - 3; used <= at+3 && used > at-4; used++ {
				isOf(t, used, many, plainOf(used, many))
			}
		}
	}
	third := math.MaxInt / 3
	isOf(t, third, 3*third, group.Few)
	isOf(t, third+1, 3*third, group.Half)
	isOf(t, 2*third, 3*third, group.Half)
	isOf(t, 2*third+1, 3*third, group.Most)
	isOf(t, third, math.MaxInt, group.Few)
	isOf(t, third+1, math.MaxInt, group.Half)
	isOf(t, 2*third, math.MaxInt, group.Half)
	isOf(t, 2*third+1, math.MaxInt, group.Most)
	isOf(t, math.MaxInt-1, math.MaxInt, group.Most)
	isOf(t, math.MaxInt, math.MaxInt, group.Full)
	isOf(t, math.MaxInt, 64, group.Full)
}
