package stable

import (
	"math"
	"slices"
	"testing"

	"mootbell/api"
	"mootbell/plain"
)

const most = api.MaxCount

// group makes a new one.
func group(t *testing.T, n int) *Stable {
	t.Helper()
	s, err := New(n)
	if err != nil || s == nil {
		t.Fatalf("New(%d) = %v, %v", n, s, err)
	}
	return s
}

// tells how far a member has come.
func tells(t *testing.T, s *Stable, who int, v ...int) {
	t.Helper()
	if err := s.Told(who, v); err != nil {
		t.Fatalf("Told(%d, %v) told %v", who, v, err)
	}
}

// rowIs holds the row of a member against what is asked for.
func rowIs(t *testing.T, s *Stable, who int, want ...int) {
	t.Helper()
	if got, err := s.Row(who); !slices.Equal(got, want) || err != nil {
		t.Fatalf("Row(%d) = %v, %v, want %v", who, got, err, want)
	}
}

// leastIs holds Least against what is asked for, and May of each member against that.
func leastIs(t *testing.T, s *Stable, want ...int) {
	t.Helper()
	if got := s.Least(); !slices.Equal(got, want) {
		t.Fatalf("Least() = %v, want %v", got, want)
	}
	for who := range s.n {
		mayUpTo(t, s, who, want[who])
	}
}

// may asks whether the first n words of a member may be forgotten.
func may(t *testing.T, s *Stable, who, n int, want bool) {
	t.Helper()
	if got, err := s.May(who, n); got != want || err != nil {
		t.Fatalf("May(%d, %d) = %v, %v, want %v", who, n, got, err, want)
	}
}

// mayUpTo asks it at the edges: so many words may be forgotten, and not one more.
func mayUpTo(t *testing.T, s *Stable, who, upTo int) {
	t.Helper()
	for _, n := range []int{0, 1, upTo - 1, upTo, upTo + 1, most - 1, most} {
		if n >= 0 && n <= most {
			may(t, s, who, n, n <= upTo)
		}
	}
}

// looks at the row of each, and behind all at the least.
func looks(t *testing.T, s *Stable) [][]int {
	t.Helper()
	var all [][]int
	for who := range s.n {
		row, err := s.Row(who)
		if err != nil {
			t.Fatalf("Row(%d) told %v", who, err)
		}
		all = append(all, row)
	}
	return append(all, s.Least())
}

// same asks that nothing changes that can be looked at.
func same(t *testing.T, s *Stable, do func()) {
	t.Helper()
	ahead := looks(t, s)
	do()
	if behind := looks(t, s); !slices.EqualFunc(ahead, behind, slices.Equal) {
		t.Fatalf("rows, and the least, changed from %v to %v", ahead, behind)
	}
}

// refuses tells a vector of which something is wrong.
func refuses(t *testing.T, s *Stable, want api.Errno, who int, v []int) {
	t.Helper()
	same(t, s, func() {
		if err := s.Told(who, v); plain.Told(err) != want {
			t.Fatalf("Told(%d, a vector of %d) told %v, want %v", who, len(v), err, want)
		}
	})
}

// noRow asks for the row of who is no member.
func noRow(t *testing.T, s *Stable, who int) {
	t.Helper()
	same(t, s, func() {
		if got, err := s.Row(who); got != nil || plain.Told(err) != api.ErrRange {
			t.Fatalf("Row(%d) = %v, %v, want nothing, %v", who, got, err, api.ErrRange)
		}
	})
}

// noMay asks whether words may be forgotten, where something is wrong with that.
func noMay(t *testing.T, s *Stable, who, n int) {
	t.Helper()
	same(t, s, func() {
		if got, err := s.May(who, n); got || plain.Told(err) != api.ErrRange {
			t.Fatalf("May(%d, %d) = %v, %v, want false, %v", who, n, got, err, api.ErrRange)
		}
	})
}

// every is a vector with one number at all places.
func every(n int) []int { return []int{n, n, n, n, n} }

// at is a vector of zeros with another number at one place.
func at(of, n int) []int {
	v := every(0)
	v[of] = n
	return v
}

// noGroups are numbers of members that no group has.
func noGroups() []int {
	return []int{math.MinInt, math.MinInt32, -api.Members, -2, -1, 0, 1, api.Members + 1, api.Members + 2, 10, most, math.MaxInt32, math.MaxInt}
}

// noMembers are numbers that no member of a group of n is.
func noMembers(n int) []int {
	return []int{math.MinInt, math.MinInt32, -n, -2, -1, n, n + 1, api.Members, api.Members + 1, most, math.MaxInt32, math.MaxInt}
}

// noCounts are numbers of words that nobody can have said.
func noCounts() []int {
	return []int{math.MinInt, math.MinInt32, -most, -2, -1, most + 1, most + 2, math.MaxInt32, math.MaxInt}
}

// noVector is what has a fault, and which one is told.
type noVector struct {
	v    []int
	want api.Errno
}

// noVectors are of a wrong length, or have a number that is none at some place, or both: then the
// length is told.
func noVectors() []noVector {
	all := []noVector{
		{nil, api.ErrShape},
		{[]int{}, api.ErrShape},
		{[]int{9}, api.ErrShape},
		{[]int{9, 9, 9, 9}, api.ErrShape},
		{[]int{9, 9, 9, 9, 9, 9}, api.ErrShape},
		{make([]int, 1_000), api.ErrShape},
		{[]int{-1}, api.ErrShape},
		{[]int{9, 9, 9, most + 1}, api.ErrShape},
		{[]int{9, 9, 9, 9, 9, -1}, api.ErrShape},
		{[]int{-1, 9, most + 1, 9, 9, 9}, api.ErrShape},
		{[]int{-1, -1, -1, -1, -1}, api.ErrRange},
		{[]int{most + 1, -1, most + 1, -1, most + 1}, api.ErrRange},
	}
	for of := range api.Members {
		for _, n := range noCounts() {
			v := every(9)
			v[of] = n
			all = append(all, noVector{at(of, n), api.ErrRange}, noVector{v, api.ErrRange})
		}
	}
	return all
}

func TestNewHasAllZero(t *testing.T) {
	for n := 2; n <= api.Members; n++ {
		s := group(t, n)
		for who := range n {
			rowIs(t, s, who, 0, 0, 0, 0, 0)
			mayUpTo(t, s, who, 0)
		}
		leastIs(t, s, 0, 0, 0, 0, 0)
	}
}

func TestNewOfNoGroup(t *testing.T) {
	for _, n := range noGroups() {
		if s, err := New(n); s != nil || plain.Told(err) != api.ErrRange {
			t.Errorf("New(%d) = %v, %v, want nothing, %v", n, s, err, api.ErrRange)
		}
	}
}

// Each number of the row is that of the vector, and no other row knows of it.
func TestToldAtFirst(t *testing.T) {
	for n := 2; n <= api.Members; n++ {
		for who := range n {
			s := group(t, n)
			tells(t, s, who, 5, 0, 3, most, 1)
			for other := range n {
				if other == who {
					rowIs(t, s, other, 5, 0, 3, most, 1)
				} else {
					rowIs(t, s, other, 0, 0, 0, 0, 0)
				}
			}
			leastIs(t, s, 0, 0, 0, 0, 0)
		}
	}
}

func TestEachMemberItsOwnRow(t *testing.T) {
	for n := 2; n <= api.Members; n++ {
		s := group(t, n)
		for who := range n {
			tells(t, s, who, every(10+who)...)
		}
		for who := range n {
			rowIs(t, s, who, every(10+who)...)
		}
		leastIs(t, s, every(10)...)
	}
}

// A greater vector, a lesser one, and one that is greater at some places and lesser at others.
func TestEachNumberIsTheGreaterOne(t *testing.T) {
	for n := 2; n <= api.Members; n++ {
		for _, who := range []int{0, n - 1} {
			s := group(t, n)
			tells(t, s, who, 2, 4, 6, 8, 10)
			rowIs(t, s, who, 2, 4, 6, 8, 10)
			tells(t, s, who, 3, 5, 7, 9, 11)
			rowIs(t, s, who, 3, 5, 7, 9, 11)
			tells(t, s, who, 2, 4, 6, 8, 10)
			rowIs(t, s, who, 3, 5, 7, 9, 11)
			tells(t, s, who, 9, 0, 9, 0, 9)
			rowIs(t, s, who, 9, 5, 9, 9, 11)
			tells(t, s, who, 0, 12, 9, 12, 12)
			rowIs(t, s, who, 9, 12, 9, 12, 12)
			tells(t, s, who, 10, 11, 10, 11, 13)
			rowIs(t, s, who, 10, 12, 10, 12, 13)
			leastIs(t, s, 0, 0, 0, 0, 0)
		}
	}
}

// One number is greater, or lesser, at each place by itself.
func TestOnePlaceByItself(t *testing.T) {
	for of := range api.Members {
		for _, who := range []int{0, 1, 2} {
			s := group(t, 3)
			tells(t, s, who, every(7)...)
			want := every(7)
			for _, n := range []int{6, 7, 8, 0, 9, 8, most, most - 1, 0} {
				v := every(7)
				v[of] = n
				tells(t, s, who, v...)
				want[of] = max(want[of], n)
				rowIs(t, s, who, want...)
				tells(t, s, who, at(of, n)...)
				rowIs(t, s, who, want...)
			}
		}
	}
}

func TestTheSameTwice(t *testing.T) {
	for n := 2; n <= api.Members; n++ {
		s := group(t, n)
		for who := range n {
			v := []int{who, 7, 0, most, 3}
			tells(t, s, who, v...)
			same(t, s, func() {
				tells(t, s, who, v...)
				tells(t, s, who, v...)
			})
			rowIs(t, s, who, v...)
		}
		leastIs(t, s, 0, 7, 0, most, 3)
	}
}

func TestZerosChangeNothing(t *testing.T) {
	for n := 2; n <= api.Members; n++ {
		s := group(t, n)
		zeros := func() {
			for who := range n {
				same(t, s, func() { tells(t, s, who, 0, 0, 0, 0, 0) })
			}
		}
		zeros()
		tells(t, s, 0, 1, 2, 3, 4, 5)
		zeros()
		tells(t, s, n-1, most, most, most, most, most)
		zeros()
		rowIs(t, s, 0, 1, 2, 3, 4, 5)
		rowIs(t, s, n-1, most, most, most, most, most)
	}
}

func TestMaxCountAtEachPlace(t *testing.T) {
	for n := 2; n <= api.Members; n++ {
		for of := range api.Members {
			s := group(t, n)
			for who := range n {
				leastIs(t, s, every(0)...)
				tells(t, s, who, at(of, most)...)
				rowIs(t, s, who, at(of, most)...)
			}
			leastIs(t, s, at(of, most)...)
		}
	}
}

func TestMaxCountAtAllPlaces(t *testing.T) {
	for n := 2; n <= api.Members; n++ {
		s := group(t, n)
		for who := range n {
			leastIs(t, s, every(0)...)
			tells(t, s, who, every(most)...)
			rowIs(t, s, who, every(most)...)
		}
		leastIs(t, s, every(most)...)
		for who := range n {
			same(t, s, func() { tells(t, s, who, every(most-1)...) })
		}
	}
}

// A vector has a number for each of all Members, also in a group that has fewer.
func TestPlacesOfWhoIsNoMember(t *testing.T) {
	s := group(t, 2)
	tells(t, s, 0, 1, 2, 3, 4, most)
	tells(t, s, 1, 5, 1, 9, 2, 7)
	rowIs(t, s, 0, 1, 2, 3, 4, most)
	rowIs(t, s, 1, 5, 1, 9, 2, 7)
	leastIs(t, s, 1, 1, 3, 2, 7)
	for who := 2; who < api.Members; who++ {
		noRow(t, s, who)
		noMay(t, s, who, 0)
		noMay(t, s, who, 1)
	}
}

// Whoever has heard nothing, of that nothing is heard by all.
func TestLeastWhereOneHeardNothing(t *testing.T) {
	for n := 2; n <= api.Members; n++ {
		for nothing := range n {
			s := group(t, n)
			for who := range n {
				if who != nothing {
					tells(t, s, who, 3, 4, most, 6, 7)
				}
			}
			leastIs(t, s, 0, 0, 0, 0, 0)
			rowIs(t, s, nothing, 0, 0, 0, 0, 0)
			tells(t, s, nothing, 1, 1, 1, 1, 1)
			leastIs(t, s, 1, 1, 1, 1, 1)
		}
	}
}

func TestLeastWhereAllHeardTheSame(t *testing.T) {
	for n := 2; n <= api.Members; n++ {
		for _, v := range [][]int{{1, 1, 1, 1, 1}, {5, 4, 3, 2, 1}, {0, most, 0, most, 0}, {most, 0, 1, most - 1, 2}} {
			s := group(t, n)
			for who := range n {
				leastIs(t, s, every(0)...)
				tells(t, s, who, v...)
			}
			leastIs(t, s, v...)
		}
	}
}

// At each place another member is behind, in all ways to go round.
func TestLeastWhereAnotherIsBehindAtEachPlace(t *testing.T) {
	for n := 2; n <= api.Members; n++ {
		for shift := range n {
			s := group(t, n)
			for who := range n {
				v := []int{100, 200, 300, 400, 500}
				for of := range v {
					if (of+shift)%n == who {
						v[of] = 10 * (of + 1)
					}
				}
				tells(t, s, who, v...)
			}
			leastIs(t, s, 10, 20, 30, 40, 50)
		}
	}
}

// Of who is no member nothing is known, and it is not waited for.
func TestRowsOfNoMembersDontCount(t *testing.T) {
	for n := 2; n < api.Members; n++ {
		s := group(t, n)
		for who := range n {
			tells(t, s, who, 8, 8, 8, 8, 8)
		}
		leastIs(t, s, 8, 8, 8, 8, 8)
		for who := n; who < api.Members; who++ {
			refuses(t, s, api.ErrRange, who, every(1))
			refuses(t, s, api.ErrRange, who, every(most))
		}
		leastIs(t, s, 8, 8, 8, 8, 8)
	}
}

// The least goes on by whoever was behind, and by nobody else.
func TestLeastGoesOn(t *testing.T) {
	s := group(t, 3)
	tells(t, s, 0, 5, 1, 0, 0, 9)
	tells(t, s, 1, 3, 4, 0, 2, 9)
	tells(t, s, 2, 4, 2, 6, 1, 9)
	leastIs(t, s, 3, 1, 0, 0, 9)
	tells(t, s, 0, 6, 1, 0, 0, 9)
	leastIs(t, s, 3, 1, 0, 0, 9)
	tells(t, s, 1, 5, 4, 0, 2, 9)
	leastIs(t, s, 4, 1, 0, 0, 9)
	tells(t, s, 2, 5, 2, 6, 1, 10)
	leastIs(t, s, 5, 1, 0, 0, 9)
	tells(t, s, 0, 0, 3, 7, 7, 0)
	leastIs(t, s, 5, 2, 0, 1, 9)
	tells(t, s, 1, 0, 0, 1, 0, 12)
	leastIs(t, s, 5, 2, 1, 1, 9)
	tells(t, s, 0, 0, 0, 0, 0, 11)
	leastIs(t, s, 5, 2, 1, 1, 10)
}

func TestMayOfEachNumber(t *testing.T) {
	for n := 2; n <= api.Members; n++ {
		for _, who := range []int{0, n - 1} {
			s := group(t, n)
			for member := range n {
				tells(t, s, member, at(who, 20+member)...)
			}
			for count := range 50 {
				may(t, s, who, count, count <= 20)
			}
			may(t, s, who, most, false)
			for other := range n {
				if other != who {
					mayUpTo(t, s, other, 0)
				}
			}
		}
	}
}

// Also the words' own speaker is one of all, and any other.
func TestMayWaitsForEach(t *testing.T) {
	for n := 2; n <= api.Members; n++ {
		for who := range n {
			for last := range n {
				s := group(t, n)
				for member := range n {
					if member != last {
						tells(t, s, member, at(who, 4)...)
					}
				}
				mayUpTo(t, s, who, 0)
				tells(t, s, last, at(who, 3)...)
				mayUpTo(t, s, who, 3)
				tells(t, s, last, at(who, 5)...)
				mayUpTo(t, s, who, 4)
			}
		}
	}
}

// May asks, and nothing is forgotten by that.
func TestMayChangesNothing(t *testing.T) {
	s := group(t, 2)
	tells(t, s, 0, every(3)...)
	tells(t, s, 1, every(2)...)
	same(t, s, func() {
		for range 3 {
			for n := range 5 {
				may(t, s, 0, n, n <= 2)
				may(t, s, 1, n, n <= 2)
			}
		}
	})
}

// Of several faults the member is told first, whatever the vector.
func TestToldByNoMember(t *testing.T) {
	for n := 2; n <= api.Members; n++ {
		s := group(t, n)
		for round := range 2 {
			for _, who := range noMembers(n) {
				for _, v := range [][]int{every(0), every(1), every(most), {1, 2, 3, 4, 5}} {
					refuses(t, s, api.ErrRange, who, v)
				}
				for _, f := range noVectors() {
					refuses(t, s, api.ErrRange, who, f.v)
				}
			}
			for who := range n {
				tells(t, s, who, every(who+round+1)...)
			}
		}
	}
}

func TestToldNoVector(t *testing.T) {
	for n := 2; n <= api.Members; n++ {
		s := group(t, n)
		no := func() {
			t.Helper()
			for _, f := range noVectors() {
				for who := range n {
					refuses(t, s, f.want, who, f.v)
				}
			}
		}
		no()
		for who := range n {
			tells(t, s, who, 5, 4, 3, 2, 1)
		}
		no()
		tells(t, s, 0, every(most)...)
		no()
		leastIs(t, s, 5, 4, 3, 2, 1)
	}
}

func TestRowOfNoMember(t *testing.T) {
	for n := 2; n <= api.Members; n++ {
		s := group(t, n)
		for many := range 3 {
			for _, who := range noMembers(n) {
				noRow(t, s, who)
			}
			for who := range n {
				rowIs(t, s, who, every(many)...)
				tells(t, s, who, every(many+1)...)
			}
		}
	}
}

// A member that is none, a number that is none, and both.
func TestMayWithFaults(t *testing.T) {
	for n := 2; n <= api.Members; n++ {
		s := group(t, n)
		for range 2 {
			for _, who := range noMembers(n) {
				for _, count := range append(noCounts(), 0, 1, 7, 8, most) {
					noMay(t, s, who, count)
				}
			}
			for who := range n {
				for _, count := range noCounts() {
					noMay(t, s, who, count)
				}
			}
			for who := range n {
				tells(t, s, who, every(most)...)
			}
		}
		leastIs(t, s, every(most)...)
	}
}

// What is refused between leaves no number behind: later ones go on from what was taken.
func TestRefusedChangesNothing(t *testing.T) {
	s := group(t, 3)
	wrong := func() {
		t.Helper()
		refuses(t, s, api.ErrRange, 0, []int{50, 50, 50, 50, most + 1})
		refuses(t, s, api.ErrRange, 1, []int{50, 50, -1, 50, 50})
		refuses(t, s, api.ErrShape, 2, []int{50, 50, 50, 50})
		refuses(t, s, api.ErrShape, 2, []int{50, 50, 50, 50, 50, 50})
		refuses(t, s, api.ErrRange, 3, every(50))
		refuses(t, s, api.ErrRange, -1, every(50))
		noRow(t, s, 3)
		noMay(t, s, 3, 1)
		noMay(t, s, 0, -1)
		noMay(t, s, 0, most+1)
	}
	wrong()
	tells(t, s, 0, 1, 0, 2, 0, 3)
	wrong()
	tells(t, s, 1, 2, 1, 1, 0, 4)
	wrong()
	tells(t, s, 2, 9, 9, 9, 9, 9)
	wrong()
	rowIs(t, s, 0, 1, 0, 2, 0, 3)
	rowIs(t, s, 1, 2, 1, 1, 0, 4)
	rowIs(t, s, 2, 9, 9, 9, 9, 9)
	leastIs(t, s, 1, 0, 1, 0, 3)
	tells(t, s, 0, 0, 1, 0, 1, 0)
	leastIs(t, s, 1, 1, 1, 0, 3)
}

// scrawl writes into a list, and what lies behind it in its memory.
func scrawl(l []int, with int) {
	l = l[:cap(l)]
	for i := range l {
		l[i] = with
	}
}

func TestListsAreTheCallers(t *testing.T) {
	s := group(t, 3)
	var lists [][]int
	for round := range 3 {
		for who := range 3 {
			tells(t, s, who, every(10*round+who+1)...)
			lists = append(lists, looks(t, s)...)
			lists = append(lists, looks(t, s)...)
		}
	}
	for i, l := range lists {
		scrawl(l, -1-i)
	}
	for i, l := range lists {
		if slices.ContainsFunc(l, func(n int) bool { return n != -1-i }) {
			t.Errorf("list %d shares memory with another one: %v", i, l)
		}
	}
	for who := range 3 {
		rowIs(t, s, who, every(20+who+1)...)
	}
	leastIs(t, s, every(21)...)
	tells(t, s, 0, 22, 0, 30, 0, 0)
	rowIs(t, s, 0, 22, 21, 30, 21, 21)
	leastIs(t, s, 22, 21, 22, 21, 21)
}

func TestAnswersStayAsTheyWere(t *testing.T) {
	s := group(t, 2)
	first := looks(t, s)
	tells(t, s, 0, 1, 2, 3, 4, 5)
	tells(t, s, 1, 5, 4, 3, 2, 1)
	second := looks(t, s)
	tells(t, s, 0, every(most)...)
	tells(t, s, 1, every(most)...)
	for _, c := range []struct{ got, want [][]int }{
		{first, [][]int{every(0), every(0), every(0)}},
		{second, [][]int{{1, 2, 3, 4, 5}, {5, 4, 3, 2, 1}, {1, 2, 3, 2, 1}}},
	} {
		if !slices.EqualFunc(c.got, c.want, slices.Equal) {
			t.Errorf("answers became %v, want %v", c.got, c.want)
		}
	}
}

// A vector is neither written into nor kept: its owner may change it later, and what lies behind it.
func TestVectorsAreTheirOwners(t *testing.T) {
	for n := 2; n <= api.Members; n++ {
		s := group(t, n)
		whole := []int{4, 0, 2, 9, 1, 77, -77, most + 1}
		for who := range n {
			tells(t, s, who, whole[:5]...)
			if err := s.Told(who, whole[:6]); plain.Told(err) != api.ErrShape {
				t.Fatalf("a vector of six told %v", err)
			}
		}
		if want := []int{4, 0, 2, 9, 1, 77, -77, most + 1}; !slices.Equal(whole, want) {
			t.Fatalf("a vector, and what lies behind it, became %v, want %v", whole, want)
		}
		scrawl(whole, 50)
		for who := range n {
			rowIs(t, s, who, 4, 0, 2, 9, 1)
		}
		leastIs(t, s, 4, 0, 2, 9, 1)
		scrawl(whole, -1)
		tells(t, s, 0, 0, 3, 0, 0, 0)
		rowIs(t, s, 0, 4, 3, 2, 9, 1)
	}
}

// What one row was told by the other's answer is not shared between the two.
func TestTellingAnAnswer(t *testing.T) {
	s := group(t, 2)
	tells(t, s, 0, 1, 2, 3, 4, 5)
	row, err := s.Row(0)
	if err != nil {
		t.Fatal(err)
	}
	tells(t, s, 1, row...)
	scrawl(row, most)
	tells(t, s, 0, every(3)...)
	rowIs(t, s, 0, 3, 3, 3, 4, 5)
	rowIs(t, s, 1, 1, 2, 3, 4, 5)
	tells(t, s, 1, s.Least()...)
	rowIs(t, s, 1, 1, 2, 3, 4, 5)
	leastIs(t, s, 1, 2, 3, 4, 5)
}

func TestEachStableForItself(t *testing.T) {
	one, other := group(t, 2), group(t, 3)
	tells(t, one, 0, 1, 2, 3, 4, 5)
	tells(t, one, 1, every(2)...)
	for who := range 3 {
		rowIs(t, other, who, every(0)...)
	}
	leastIs(t, other, every(0)...)
	tells(t, other, 0, every(9)...)
	tells(t, other, 1, every(8)...)
	tells(t, other, 2, every(7)...)
	rowIs(t, one, 0, 1, 2, 3, 4, 5)
	rowIs(t, one, 1, every(2)...)
	leastIs(t, one, 1, 2, 2, 2, 2)
	leastIs(t, other, every(7)...)
	refuses(t, one, api.ErrRange, 2, every(most))
	rowIs(t, other, 2, every(7)...)
	another := group(t, 2)
	leastIs(t, another, every(0)...)
	tells(t, another, 0, every(1)...)
	leastIs(t, one, 1, 2, 2, 2, 2)
	leastIs(t, another, every(0)...)
}
