package inner_test

import "testing"

// Promise 17.4

func TestObjectsOfTwoZspagesBesideEachOther(t *testing.T) {
	for _, class := range someClasses {
		for _, other := range []int{0, 46, 63} {
			r := newRAM(t, 8)
			a, b := pairIn(t, r, class), pairIn(t, r, other)
			for a.free()+b.free() > 0 {
				if n, ok := a.take(); ok {
					a.fill(n, 3*n)
				}
				if n, ok := b.take(); ok {
					b.fill(n, 5*n+1)
				}
			}
			a.tellsSame()
			b.tellsSame()
			for n := range max(a.many(), b.many()) {
				a.give(n)
				b.give(b.many() - 1 - n)
				a.tellsList()
				b.tellsList()
			}
			a.tellsSame()
			b.tellsSame()
		}
	}
}

// One object is written, whatever is done with all others.
func TestWhateverOthersAreTakenGivenAndWritten(t *testing.T) {
	for _, class := range someClasses {
		b := newPair(t, class)
		for n := range b.many() {
			b.only(n)
			b.fill(n, 90+n)
			if n%8 > 0 && n < b.many()-1 {
				continue
			}
			b.takeAll(20)
			b.tellsSame()
			b.keep(n)
			b.tellsSame()
		}
	}
}

// Each order in which four objects are given back.
func TestEveryOrder(t *testing.T) {
	for order := range 256 {
		ns := []int{order % 4, order / 4 % 4, order / 16 % 4, order / 64}
		b := newPair(t, 46)
		b.takeAll(order)
		for _, n := range ns {
			b.give(n)
			b.tellsList()
		}
		b.tellsSame()
		for range 2 {
			b.take()
			b.tellsList()
		}
		b.tellsSame()
	}
}

func TestReadingChangesNothing(t *testing.T) {
	everyState(t, func(b *pair) {
		for range 2 {
			for n := range b.many() {
				b.read(n, b.size())
				b.p.Has(n)
			}
			b.p.Row()
			b.p.Used()
			b.list()
		}
		b.tellsSame()
	})
}

// TestManySteps does a long row of steps with four zspages of one RAM, always
// the same one.
func TestManySteps(t *testing.T) {
	for seed := range 4 {
		r := newRAM(t, 16)
		next := steps(seed)
		pairs := make([]*pair, 4)
		for at := range pairs {
			pairs[at] = pairIn(t, r, next()%64)
		}
		for at := range 6000 {
			which := next() % len(pairs)
			oneStep(pairs[which], next)
			pairs[which].tellsList()
			if next()%60 == 0 {
				pairs[which] = anew(pairs[which], next()%64)
			}
			if at%100 == 0 {
				tellAllSame(pairs)
			}
		}
		tellAllSame(pairs)
	}
}

func tellAllSame(pairs []*pair) {
	for _, b := range pairs {
		b.Helper()
		b.tellsSame()
	}
}

// anew closes a zspage, all of whose objects are given back, and is one of that
// class instead.
func anew(b *pair, class int) *pair {
	b.Helper()
	b.keep()
	if !b.p.Close(b.r) {
		b.Fatal("Close: false")
	}
	return pairIn(b.T, b.r, class)
}

// oneStep does any one thing, mostly such that may be done.
func oneStep(b *pair, next func() int) {
	b.Helper()
	n := next() % b.many()
	if next()%20 == 0 {
		n += next()%5 - 2
	}
	switch next() % 6 {
	case 0, 1:
		if got, ok := b.take(); ok {
			b.fill(got, next()%1000)
		}
	case 2:
		b.give(n)
	case 3:
		b.read(n, next()%(b.size()+2)-next()%40/39)
	case 4:
		b.write(n, pattern(next()%(b.size()+2), next()%1000))
	default:
		refusedClose(b)
	}
}

func refusedClose(b *pair) {
	b.Helper()
	if len(b.taken) > 0 && b.p.Close(b.r) {
		b.Fatalf("Close with %d taken: true", len(b.taken))
	}
}
