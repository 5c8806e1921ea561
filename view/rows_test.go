package view

import (
	"math"
	"math/bits"
	"slices"
	"testing"

	"mootbell/api"
	"mootbell/plain"
)

// asBits is V1 in another way: who is in a view is a number with a bit for each member, which a list
// has just if it is what the number's bits are written out as.
func asBits(has []int) (uint, api.Errno) {
	if len(has) == 0 {
		return 0, api.ErrNone
	}
	var set uint
	for _, who := range has {
		// A member that is not above the one ahead leaves a bit at its place, or above it.
		if who < 0 || who > 4 {
			return 0, api.ErrRange
		}
		if set>>who != 0 {
			return 0, api.ErrShape
		}
		set |= 1 << who
	}
	return set, api.OK
}

func faultOf(v api.View) api.Errno {
	if v.N != min(max(v.N, 0), 1_000_000) {
		return api.ErrRange
	}
	_, fault := asBits(v.Has)
	return fault
}

// leave tells whether as many go as stay, or more.
func leave(old, has []int) bool {
	was, _ := asBits(old)
	is, _ := asBits(has)
	return bits.OnesCount(was&^is) >= bits.OnesCount(was&is)
}

func nextFault(v api.View, has []int) api.Errno {
	if fault := faultOf(v); fault != api.OK {
		return fault
	}
	if v.N == 1_000_000 {
		return api.ErrFull
	}
	if _, fault := asBits(has); fault != api.OK {
		return fault
	}
	if leave(v.Has, has) {
		return api.ErrOut
	}
	return api.OK
}

// chainFault goes from the last view to the first, so that what it tells last is of the first.
func chainFault(l []api.View) (int, api.Errno) {
	if len(l) >= 61 {
		return 0, api.ErrFull
	}
	at, fault := 0, api.OK
	for i := len(l) - 1; i >= 0; i-- {
		switch bad := faultOf(l[i]); {
		case bad != api.OK:
			at, fault = i, bad
		case i == 0:
		case l[i].N-l[i-1].N != 1:
			at, fault = i, api.ErrShape
		case leave(l[i-1].Has, l[i].Has):
			at, fault = i, api.ErrOut
		}
	}
	return at, fault
}

func bothFault(a, b api.View) api.Errno {
	if fault := faultOf(a); fault != api.OK {
		return fault
	}
	return faultOf(b)
}

// holdNext holds Next against the words of V1.
func holdNext(t *testing.T, v api.View, has []int) api.Errno {
	t.Helper()
	want := nextFault(v, has)
	if want == api.OK {
		goesOn(t, v, has...)
	} else {
		endsAt(t, want, v, has...)
	}
	return want
}

func holdChain(t *testing.T, l []api.View) api.Errno {
	t.Helper()
	at, want := chainFault(l)
	breaks(t, at, want, l...)
	return want
}

func holdBoth(t *testing.T, a, b api.View) api.Errno {
	t.Helper()
	want := bothFault(a, b)
	if want != api.OK {
		noBoth(t, want, a, b)
		return want
	}
	first, _ := asBits(a.Has)
	second, _ := asBits(b.Has)
	bothAre(t, a, b, members(int(first&second))...)
	return want
}

// everyList hands out each list of up to so many numbers from -1 to Members.
func everyList(length int, to func(has []int)) {
	var has []int
	var grow func()
	grow = func() {
		to(has)
		if len(has) == length {
			return
		}
		for who := -1; who <= api.Members; who++ {
			has = append(has, who)
			grow()
			has = has[:len(has)-1]
		}
	}
	grow()
}

func TestEveryListOfSix(t *testing.T) {
	lists, sound := 0, 0
	everyList(6, func(has []int) {
		lists++
		_, want := asBits(has)
		if want == api.OK {
			sound++
		}
		v := of(7, has...)
		if got := plain.Told(Check(v)); got != want {
			t.Fatalf("Check(%v) told %v, want %v", v, got, want)
		}
		if at, err := Chain([]api.View{v}); at != 0 || plain.Told(err) != want {
			t.Fatalf("Chain of %v = %d, %v, want 0, %v", v, at, err, want)
		}
	})
	if want := 1 + 7 + 49 + 343 + 2401 + 16807 + 117649; lists != want || sound != 31 {
		t.Errorf("%d lists, %d of them sound, want %d and 31", lists, sound, want)
	}
}

// Every two lists of up to three numbers, right ones and wrong ones.
func TestEveryTwoLists(t *testing.T) {
	var lists [][]int
	everyList(3, func(has []int) { lists = append(lists, slices.Clone(has)) })
	counts := map[api.Errno]int{}
	for _, had := range lists {
		for _, has := range lists {
			counts[holdNext(t, of(7, had...), has)]++
			holdBoth(t, of(7, had...), of(8, has...))
			holdChain(t, []api.View{of(7, had...), of(8, has...)})
		}
	}
	for _, fault := range []api.Errno{api.OK, api.ErrRange, api.ErrNone, api.ErrShape, api.ErrOut} {
		if counts[fault] < 100 {
			t.Errorf("%v: %d times, too few", fault, counts[fault])
		}
	}
}

// Every two groups that there can be, with each number that is an edge.
func TestEveryTwoGroups(t *testing.T) {
	for _, n := range append(counts(), noCounts()...) {
		for _, had := range groups() {
			for _, has := range groups() {
				v := of(n, had...)
				holdNext(t, v, has)
				for _, other := range []int{0, n, n + 1, most, most + 1} {
					holdBoth(t, v, of(other, has...))
					holdChain(t, []api.View{v, of(other, has...)})
				}
			}
		}
	}
}

// Every chain of three groups, of which the numbers are right.
func TestEveryChainOfThree(t *testing.T) {
	found := map[[2]int]int{}
	for _, one := range groups() {
		for _, two := range groups() {
			for _, three := range groups() {
				l := []api.View{of(4, one...), of(5, two...), of(6, three...)}
				fault := holdChain(t, l)
				at, _ := chainFault(l)
				found[[2]int{at, int(fault)}]++
			}
		}
	}
	for _, kind := range [][2]int{{0, int(api.OK)}, {1, int(api.ErrOut)}, {2, int(api.ErrOut)}} {
		if found[kind] < 500 {
			t.Errorf("%v: %d times, too few", kind, found[kind])
		}
	}
	if len(found) != 3 {
		t.Errorf("chains told %v", found)
	}
}

// No two apart go on: whoever two views behind one are of, somebody is in both.
func TestNoTwoApartGoOn(t *testing.T) {
	pairs := 0
	for _, had := range groups() {
		for _, one := range groups() {
			for _, two := range groups() {
				a, err := Next(of(7, had...), one)
				b, bad := Next(of(7, had...), two)
				if err != nil || bad != nil {
					continue
				}
				pairs++
				if both, err := Both(a, b); len(both) == 0 || err != nil {
					t.Fatalf("of %v go on %v and %v, with %v in both, %v", had, one, two, both, err)
				}
			}
		}
	}
	if pairs < 1_000 {
		t.Errorf("%d pairs of views go on, too few", pairs)
	}
}

// dice are numbers that look thrown, and are the same each time.
type dice uint64

func (d *dice) below(n int) int {
	*d = *d*6364136223846793005 + 1442695040888963407
	return int(uint64(*d>>33) % uint64(n))
}

// one of some numbers.
func (d *dice) one(of ...int) int { return of[d.below(len(of))] }

// group that can be.
func (d *dice) group() []int { return members(1 + d.below(1<<api.Members-1)) }

// list that may be wrong in any way.
func (d *dice) list() []int {
	has := d.group()
	at := d.below(len(has))
	switch d.below(12) {
	case 0:
		return nil
	case 1:
		has[at] = d.one(math.MinInt, -1, api.Members, api.Members+1, math.MaxInt)
	case 2:
		has[at] = d.below(api.Members)
	case 3:
		return slices.Insert(has, at, has[at])
	case 4:
		slices.Reverse(has)
	}
	return has
}

// Chains that Next makes are right, up to so many; and none goes on with what Next refuses.
func TestChainsOfNext(t *testing.T) {
	d := dice(51)
	counts := map[api.Errno]int{}
	for round := range 400 {
		n := d.one(0, 1, d.below(most), most-api.MaxEvents+1, most-30)
		l := []api.View{of(n, d.group()...)}
		for range 4 * api.MaxEvents {
			last := l[len(l)-1]
			has := d.list()
			fault := holdNext(t, last, has)
			counts[fault]++
			tried := append(slices.Clone(l), of(last.N+1, has...))
			switch v, err := Next(last, has); {
			case len(l) == api.MaxEvents:
				breaks(t, 0, api.ErrFull, tried...)
			case err == nil:
				l = append(l, v)
				holds(t, l...)
			case fault == api.ErrFull:
				breaks(t, len(l), api.ErrRange, tried...)
			default:
				breaks(t, len(l), fault, tried...)
			}
		}
		if round%5 == 0 && len(l) < 10 {
			t.Fatalf("a chain of %d views, too short", len(l))
		}
	}
	for _, fault := range []api.Errno{api.OK, api.ErrRange, api.ErrNone, api.ErrShape, api.ErrOut, api.ErrFull} {
		if counts[fault] < 500 {
			t.Errorf("%v: %d times, too few", fault, counts[fault])
		}
	}
}

// Chains with one or two faults at any place.
func TestThrownChains(t *testing.T) {
	d := dice(52)
	counts := map[api.Errno]int{}
	places := map[int]int{}
	for range 40_000 {
		l := long(d.one(0, 7, most-api.MaxEvents), d.below(api.MaxEvents+3))
		for range min(d.below(3), len(l)) {
			v := &l[d.below(len(l))]
			switch d.below(3) {
			case 0:
				v.N = d.one(math.MinInt, -1, v.N-1, v.N, v.N+1, most, most+1, math.MaxInt)
			case 1:
				v.Has = d.list()
			case 2:
				v.Has = d.group()
			}
		}
		fault := holdChain(t, l)
		counts[fault]++
		at, _ := chainFault(l)
		places[at]++
	}
	for _, fault := range []api.Errno{api.OK, api.ErrRange, api.ErrNone, api.ErrShape, api.ErrOut, api.ErrFull} {
		if counts[fault] < 100 {
			t.Errorf("%v: %d times, too few", fault, counts[fault])
		}
	}
	for at := range api.MaxEvents {
		if places[at] == 0 {
			t.Errorf("at %d: never", at)
		}
	}
}
