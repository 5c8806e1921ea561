package view

import (
	"math"
	"slices"
	"testing"

	"mootbell/api"
	"mootbell/plain"
)

const most = api.MaxCount

// of is a view of a number, and of those who are told.
func of(n int, has ...int) api.View { return api.View{N: n, Has: has} }

// all are the members 0 to n - 1.
func all(n int) []int {
	var has []int
	for who := range n {
		has = append(has, who)
	}
	return has
}

func isSame(a, b api.View) bool { return a.N == b.N && slices.Equal(a.Has, b.Has) }

// right asks that nothing is wrong with a view.
func right(t *testing.T, v api.View) {
	t.Helper()
	if err := Check(v); err != nil {
		t.Fatalf("Check(%v) told %v", v, err)
	}
}

// wrong asks what is wrong with a view.
func wrong(t *testing.T, want api.Errno, v api.View) {
	t.Helper()
	if err := Check(v); plain.Told(err) != want {
		t.Fatalf("Check(%v) told %v, want %v", short(v), err, want)
	}
}

// goesOn asks for the next view.
func goesOn(t *testing.T, v api.View, has ...int) api.View {
	t.Helper()
	got, err := Next(v, has)
	if want := of(v.N+1, has...); !isSame(got, want) || err != nil {
		t.Fatalf("Next(%v, %v) = %v, %v, want %v", v, has, got, err, want)
	}
	return got
}

// endsAt asks for a next view where something is wrong.
func endsAt(t *testing.T, want api.Errno, v api.View, has ...int) {
	t.Helper()
	if got, err := Next(v, has); got.N != 0 || got.Has != nil || plain.Told(err) != want {
		t.Fatalf("Next(%v, %v) = %v, %v, want an empty view, %v", short(v), has[:min(len(has), 9)], got, err, want)
	}
}

// holds asks that no view of a chain is wrong.
func holds(t *testing.T, l ...api.View) {
	t.Helper()
	if at, err := Chain(l); at != 0 || err != nil {
		t.Fatalf("Chain of %d views = %d, %v, want 0 and nothing wrong: %v", len(l), at, err, l)
	}
}

// breaks asks which view of a chain is wrong, and how.
func breaks(t *testing.T, at int, want api.Errno, l ...api.View) {
	t.Helper()
	if got, err := Chain(l); got != at || plain.Told(err) != want {
		t.Fatalf("Chain of %d views = %d, %v, want %d, %v", len(l), got, err, at, want)
	}
}

// bothAre asks who is in two views, and in whichever order they are told.
func bothAre(t *testing.T, a, b api.View, want ...int) {
	t.Helper()
	if got, err := Both(a, b); !slices.Equal(got, want) || err != nil {
		t.Fatalf("Both(%v, %v) = %v, %v, want %v", a, b, got, err, want)
	}
	if got, err := Both(b, a); !slices.Equal(got, want) || err != nil {
		t.Fatalf("Both(%v, %v) = %v, %v, want %v", b, a, got, err, want)
	}
}

// noBoth asks who is in two views where something is wrong.
func noBoth(t *testing.T, want api.Errno, a, b api.View) {
	t.Helper()
	if got, err := Both(a, b); got != nil || plain.Told(err) != want {
		t.Fatalf("Both(%v, %v) = %v, %v, want nobody, %v", short(a), short(b), got, err, want)
	}
}

// short is of a long view as much as one can read.
func short(v api.View) api.View {
	v.Has = v.Has[:min(len(v.Has), 9)]
	return v
}

// counts are numbers of views, the edges among them.
func counts() []int { return []int{0, 1, 2, 500, most - 1, most} }

// noCounts are numbers that no view has.
func noCounts() []int {
	return []int{math.MinInt, math.MinInt32, -most, -2, -1, most + 1, most + 2, math.MaxInt32, math.MaxInt}
}

// noMembers are numbers that no member is.
func noMembers() []int {
	return []int{math.MinInt, math.MinInt32, -most, -2, -1, api.Members, api.Members + 1, 30, most, math.MaxInt32, math.MaxInt}
}

// groups are those who can be in a view: everyone that there can be.
func groups() [][]int {
	var every [][]int
	for bits := 1; bits < 1<<api.Members; bits++ {
		every = append(every, members(bits))
	}
	return every
}

// members of a number: a bit for each.
func members(bits int) []int {
	var has []int
	for who := range api.Members {
		if bits>>who&1 == 1 {
			has = append(has, who)
		}
	}
	return has
}

// noGroup is a list that has a fault, and which one is told.
type noGroup struct {
	has  []int
	want api.Errno
}

// noGroups have each fault, at the first place and at later ones, by itself and with others: then what
// is wrong with the first that has a fault is told.
func noGroups() []noGroup {
	lists := []noGroup{
		{nil, api.ErrNone},
		{[]int{}, api.ErrNone},
		{[]int{0, 0}, api.ErrShape},
		{[]int{4, 4}, api.ErrShape},
		{[]int{1, 0}, api.ErrShape},
		{[]int{4, 0}, api.ErrShape},
		{[]int{0, 1, 1}, api.ErrShape},
		{[]int{0, 2, 1}, api.ErrShape},
		{[]int{0, 2, 1, 3}, api.ErrShape},
		{[]int{1, 2, 3, 0}, api.ErrShape},
		{[]int{0, 1, 2, 3, 3}, api.ErrShape},
		{[]int{0, 1, 2, 4, 3}, api.ErrShape},
		{[]int{1, 2, 3, 4, 0}, api.ErrShape},
		{[]int{0, 1, 2, 3, 4, 4}, api.ErrShape},
		{[]int{0, 1, 2, 3, 4, 0}, api.ErrShape},
		{[]int{4, 3, 2, 1, 0}, api.ErrShape},
		{make([]int, 100_000), api.ErrShape},
	}
	for _, who := range noMembers() {
		lists = append(lists, []noGroup{
			{[]int{who}, api.ErrRange},
			{[]int{who, 1}, api.ErrRange},
			{[]int{who, who}, api.ErrRange},
			{[]int{who, 3, 2}, api.ErrRange},
			{[]int{0, who}, api.ErrRange},
			{[]int{4, who}, api.ErrRange},
			{[]int{0, who, who}, api.ErrRange},
			{[]int{0, who, 0}, api.ErrRange},
			{[]int{0, 1, 2, 3, who}, api.ErrRange},
			{[]int{0, 1, 2, 3, 4, who}, api.ErrRange},
			{[]int{2, 2, who}, api.ErrShape},
			{[]int{2, 1, who, 0}, api.ErrShape},
			{[]int{0, 1, 2, 3, 3, who}, api.ErrShape},
		}...)
	}
	return lists
}

// noView is one that has a fault, and which one is told.
type noView struct {
	v    api.View
	want api.Errno
}

// noViews have a wrong number, or a list that has a fault, or both: then the number is told.
func noViews() []noView {
	var views []noView
	for _, n := range noCounts() {
		views = append(views, noView{of(n, 0, 1, 2), api.ErrRange}, noView{of(n, 4), api.ErrRange}, noView{of(n, all(api.Members)...), api.ErrRange})
		for _, list := range noGroups() {
			views = append(views, noView{of(n, list.has...), api.ErrRange})
		}
	}
	for _, n := range []int{0, 1, most} {
		for _, list := range noGroups() {
			views = append(views, noView{of(n, list.has...), list.want})
		}
	}
	return views
}

func TestCheckOfRightOnes(t *testing.T) {
	for _, n := range counts() {
		for _, has := range groups() {
			right(t, of(n, has...))
		}
	}
	if n := len(groups()); n != 31 {
		t.Errorf("%d groups, want 31", n)
	}
}

func TestCheckOfTheNumber(t *testing.T) {
	right(t, of(0, 0))
	wrong(t, api.ErrRange, of(-1, 0))
	right(t, of(most, 0))
	wrong(t, api.ErrRange, of(most+1, 0))
	for _, n := range noCounts() {
		wrong(t, api.ErrRange, of(n, all(api.Members)...))
	}
}

func TestCheckOfOneMember(t *testing.T) {
	for who := range api.Members {
		right(t, of(3, who))
	}
	for _, who := range noMembers() {
		wrong(t, api.ErrRange, of(3, who))
	}
}

func TestCheckTellsTheFirstFault(t *testing.T) {
	for _, no := range noViews() {
		wrong(t, no.want, no.v)
	}
}

// The faults ErrNone and ErrShape have no other error ahead, but for that of the number.
func TestCheckTellsTheNumberAheadOfTheMembers(t *testing.T) {
	for _, n := range []int{-1, most + 1} {
		wrong(t, api.ErrRange, of(n))
		wrong(t, api.ErrRange, of(n, 1, 1))
		wrong(t, api.ErrRange, of(n, 2, 1))
	}
	wrong(t, api.ErrNone, of(0))
	wrong(t, api.ErrShape, of(0, 1, 1))
	wrong(t, api.ErrShape, of(most, 2, 1))
}

func TestNextOfTheSame(t *testing.T) {
	for _, n := range []int{0, 1, 2, 500, most - 1} {
		for _, has := range groups() {
			goesOn(t, of(n, has...), has...)
		}
	}
}

func TestNextOfFewer(t *testing.T) {
	goesOn(t, of(0, 0, 1, 2), 0, 1)
	goesOn(t, of(0, 0, 1, 2), 1, 2)
	goesOn(t, of(7, 0, 1, 2, 3), 0, 2, 3)
	goesOn(t, of(7, 0, 1, 2, 3, 4), 0, 2, 3, 4)
	goesOn(t, of(7, 0, 1, 2, 3, 4), 0, 2, 4)
}

func TestNextOfMore(t *testing.T) {
	goesOn(t, of(0, 2), 2, 3)
	goesOn(t, of(0, 2), 1, 2)
	goesOn(t, of(0, 4), 0, 1, 2, 3, 4)
	goesOn(t, of(7, 1, 3), 0, 1, 2, 3, 4)
	goesOn(t, of(7, 0, 1, 2, 3), 0, 1, 2, 3, 4)
}

// Those who come do not count: it is those of the view ahead of whom more than half are asked for.
func TestNextOfOthers(t *testing.T) {
	goesOn(t, of(7, 0, 1, 2), 0, 1, 3, 4)
	goesOn(t, of(7, 0, 1, 2), 0, 2, 3)
	endsAt(t, api.ErrOut, of(7, 0, 1, 2), 0, 3, 4)
	endsAt(t, api.ErrOut, of(7, 0, 1), 0, 2, 3, 4)
	endsAt(t, api.ErrOut, of(7, 0, 1, 2, 3), 0, 1, 4)
	endsAt(t, api.ErrOut, of(7, 0), 1, 2, 3, 4)
	endsAt(t, api.ErrOut, of(7, 4), 0)
	endsAt(t, api.ErrOut, of(7, 0, 1, 2), 3, 4)
}

// Just half, and one more, of an even number; of an odd one those next to the half.
func TestNextAtTheHalf(t *testing.T) {
	endsAt(t, api.ErrOut, of(7, 1), 2)
	goesOn(t, of(7, 1), 1)
	endsAt(t, api.ErrOut, of(7, 1, 2), 1)
	endsAt(t, api.ErrOut, of(7, 1, 2), 2)
	goesOn(t, of(7, 1, 2), 1, 2)
	endsAt(t, api.ErrOut, of(7, 1, 2, 3), 2)
	goesOn(t, of(7, 1, 2, 3), 1, 3)
	endsAt(t, api.ErrOut, of(7, 0, 1, 3, 4), 0, 4)
	goesOn(t, of(7, 0, 1, 3, 4), 0, 3, 4)
	endsAt(t, api.ErrOut, of(7, 0, 1, 2, 3, 4), 1, 4)
	goesOn(t, of(7, 0, 1, 2, 3, 4), 1, 2, 4)
}

func TestNextOfTheLastNumber(t *testing.T) {
	v := goesOn(t, of(most-1, 0, 1, 2), 0, 1)
	right(t, v)
	endsAt(t, api.ErrFull, v, 0, 1)
	for _, has := range groups() {
		endsAt(t, api.ErrFull, of(most, has...), has...)
		endsAt(t, api.ErrFull, of(most, 0, 1, 2, 3), has...)
	}
}

func TestNextTellsTheFaultsOfTheViewFirst(t *testing.T) {
	for _, no := range noViews() {
		endsAt(t, no.want, no.v, 0, 1)
		endsAt(t, no.want, no.v)
		endsAt(t, no.want, no.v, 0, 0)
		endsAt(t, no.want, no.v, 3, api.Members)
	}
}

func TestNextTellsFullAheadOfTheMembers(t *testing.T) {
	for _, no := range noGroups() {
		endsAt(t, api.ErrFull, of(most, 0, 1, 2), no.has...)
	}
}

// Whether those who are told would be more than half or not.
func TestNextTellsTheFaultsOfTheMembers(t *testing.T) {
	for _, n := range []int{0, 1, most - 1} {
		for _, no := range noGroups() {
			endsAt(t, no.want, of(n, all(api.Members)...), no.has...)
			endsAt(t, no.want, of(n, 0), no.has...)
			endsAt(t, no.want, of(n, 4), no.has...)
		}
	}
}

// A member that is told twice is not two.
func TestNextCountsNobodyTwice(t *testing.T) {
	endsAt(t, api.ErrShape, of(0, 1, 2), 1, 1)
	endsAt(t, api.ErrShape, of(0, 0, 1, 2, 3), 0, 0, 0, 0)
}

// long is a chain of so many views, from a number on.
func long(from, n int) []api.View {
	var l []api.View
	for i := range n {
		l = append(l, of(from+i, all(3+i%3)...))
	}
	return l
}

func TestChainOfNone(t *testing.T) {
	holds(t)
	if at, err := Chain([]api.View{}); at != 0 || err != nil {
		t.Errorf("Chain of an empty list = %d, %v", at, err)
	}
}

func TestChainOfOne(t *testing.T) {
	for _, n := range counts() {
		for _, has := range groups() {
			holds(t, of(n, has...))
		}
	}
	for _, no := range noViews() {
		breaks(t, 0, no.want, no.v)
	}
}

func TestChainOfMany(t *testing.T) {
	holds(t, of(0, 0, 1, 2), of(1, 0, 1), of(2, 0, 1, 2, 3), of(3, 1, 2, 3), of(4, 1, 3, 4))
	holds(t, of(most-1, 3), of(most, 3))
	for n := range api.MaxEvents + 1 {
		holds(t, long(0, n)...)
		holds(t, long(77, n)...)
		holds(t, long(most+1-n, n)...)
	}
}

// One more than may be is told at 0, whatever else is wrong.
func TestChainOfTooMany(t *testing.T) {
	holds(t, long(5, api.MaxEvents)...)
	breaks(t, 0, api.ErrFull, long(5, api.MaxEvents+1)...)
	breaks(t, 0, api.ErrFull, long(5, 1_000)...)
	breaks(t, 0, api.ErrFull, make([]api.View, api.MaxEvents+1)...)
	for _, at := range []int{0, 1, 30, api.MaxEvents - 1, api.MaxEvents} {
		l := long(5, api.MaxEvents+1)
		l[at] = of(-1)
		breaks(t, 0, api.ErrFull, l...)
	}
}

// Each fault at the first view, at one between, and at the last.
func TestChainTellsWhichIsWrong(t *testing.T) {
	for _, n := range []int{1, 2, 3, 10, api.MaxEvents} {
		for _, at := range []int{0, n / 2, n - 1} {
			for _, no := range noViews() {
				l := long(0, n)
				l[at] = no.v
				breaks(t, at, no.want, l...)
			}
		}
	}
}

func TestChainTellsTheFirstThatIsWrong(t *testing.T) {
	breaks(t, 0, api.ErrNone, of(3), of(4, 9), of(-1, 1))
	breaks(t, 1, api.ErrRange, of(3, 0), of(4, 9), of(-1, 1))
	breaks(t, 1, api.ErrShape, of(3, 0), of(3, 0), of(4))
	breaks(t, 1, api.ErrOut, of(3, 0, 1), of(4, 0), of(4, 0), of(-1, 0))
	breaks(t, 2, api.ErrRange, of(3, 0), of(4, 0), of(-1, 0), of(6))
	breaks(t, 2, api.ErrShape, of(3, 0), of(4, 0), of(5, 0, 0), of(5, 0))
}

// The same number, a lower one, two above, and others, at each place but the first.
func TestChainAsksForTheNextNumber(t *testing.T) {
	for at := 1; at < 10; at++ {
		for _, n := range []int{0, 100 + at - 3, 100 + at - 2, 100 + at - 1, 100 + at + 1, 100 + at + 2, most} {
			l := long(100, 10)
			l[at].N = n
			breaks(t, at, api.ErrShape, l...)
		}
	}
	breaks(t, 1, api.ErrShape, of(most, 0), of(0, 0))
	breaks(t, 1, api.ErrShape, of(most, 0), of(most, 0))
	breaks(t, 1, api.ErrRange, of(most, 0), of(most+1, 0))
	breaks(t, 1, api.ErrRange, of(0, 0), of(-1, 0))
	breaks(t, 1, api.ErrShape, of(0, 0), of(0, 0))
	breaks(t, 1, api.ErrShape, of(0, 0), of(2, 0))
	breaks(t, 1, api.ErrShape, of(1, 0), of(0, 0))
}

func TestChainAsksForMoreThanHalf(t *testing.T) {
	holds(t, of(4, 0, 1, 2, 3), of(5, 0, 1, 2))
	breaks(t, 1, api.ErrOut, of(4, 0, 1, 2, 3), of(5, 0, 1))
	holds(t, of(4, 0, 1, 2), of(5, 0, 1))
	breaks(t, 1, api.ErrOut, of(4, 0, 1, 2), of(5, 0))
	holds(t, of(4, 0), of(5, 0))
	breaks(t, 1, api.ErrOut, of(4, 0), of(5, 1))
	holds(t, of(4, 0, 1, 2, 3, 4), of(5, 0, 1, 2), of(6, 1, 2), of(7, 1, 2, 3, 4), of(8, 2, 3, 4))
	breaks(t, 4, api.ErrOut, of(4, 0, 1, 2, 3, 4), of(5, 0, 1, 2), of(6, 1, 2), of(7, 1, 2, 3, 4), of(8, 3, 4))
	breaks(t, 2, api.ErrOut, of(4, 0, 1, 2, 3, 4), of(5, 0, 1, 2), of(6, 0, 3, 4))
}

// The half is of the view straight ahead, not of an earlier one, nor of the one behind.
func TestChainAsksTheOneAhead(t *testing.T) {
	holds(t, of(4, 0, 1, 2, 3, 4), of(5, 0, 1, 2), of(6, 0, 1), of(7, 0, 1, 2, 3, 4))
	holds(t, of(4, 0, 1, 2), of(5, 1, 2, 3), of(6, 2, 3, 4), of(7, 3, 4))
	holds(t, of(4, 0), of(5, 0, 1, 2, 3, 4))
	breaks(t, 2, api.ErrOut, of(4, 0), of(5, 0, 1, 2, 3, 4), of(6, 0))
}

// Of one view what Check tells is ahead of the number's place, and that of the half.
func TestChainTellsTheFaultThatIsNamedFirst(t *testing.T) {
	for _, no := range noViews() {
		for _, ahead := range []api.View{of(0, 0, 1, 2), of(9, 4), of(most, all(api.Members)...)} {
			breaks(t, 1, no.want, ahead, no.v)
		}
	}
	breaks(t, 1, api.ErrShape, of(4, 0, 1), of(4, 0))
	breaks(t, 1, api.ErrShape, of(4, 0, 1), of(6, 2))
	breaks(t, 1, api.ErrShape, of(4, 0, 1), of(3, 3, 4))
	breaks(t, 1, api.ErrOut, of(4, 0, 1), of(5, 0))
}

func TestBothWhereAllAre(t *testing.T) {
	for _, has := range groups() {
		bothAre(t, of(0, has...), of(most, has...), has...)
		bothAre(t, of(3, has...), of(3, has...), has...)
	}
}

func TestBothWhereOneIs(t *testing.T) {
	for who := range api.Members {
		bothAre(t, of(1, who), of(2, all(api.Members)...), who)
		bothAre(t, of(1, who), of(2, who), who)
	}
	bothAre(t, of(1, 0, 1, 2), of(2, 2, 3, 4), 2)
	bothAre(t, of(1, 0, 2, 4), of(2, 1, 3, 4), 4)
	bothAre(t, of(1, 0, 3, 4), of(2, 0, 1, 2), 0)
}

func TestBothWhereNobodyIs(t *testing.T) {
	bothAre(t, of(1, 0), of(2, 4))
	bothAre(t, of(1, 0, 1, 2), of(2, 3, 4))
	bothAre(t, of(1, 0, 2, 4), of(2, 1, 3))
	bothAre(t, of(0, 0, 1, 3, 4), of(0, 2))
}

func TestBothWhereSomeAre(t *testing.T) {
	bothAre(t, of(1, 0, 1, 2, 3), of(0, 1, 2, 3, 4), 1, 2, 3)
	bothAre(t, of(1, 0, 2, 3, 4), of(9, 0, 1, 4), 0, 4)
	bothAre(t, of(1, 0, 1, 2, 3, 4), of(9, 1, 3), 1, 3)
}

// The numbers of two views need not go together.
func TestBothOfAnyNumbers(t *testing.T) {
	for _, n := range counts() {
		for _, other := range counts() {
			bothAre(t, of(n, 0, 1, 3), of(other, 1, 2, 3), 1, 3)
		}
	}
}

func TestBothTellsTheFaultsOfTheFirstViewFirst(t *testing.T) {
	second := []noView{
		{of(-1, 0), api.ErrRange}, {of(most+1, 0), api.ErrRange}, {of(1), api.ErrNone},
		{of(1, -1), api.ErrRange}, {of(1, 0, api.Members), api.ErrRange},
		{of(1, 2, 2), api.ErrShape}, {of(1, 2, 1), api.ErrShape},
	}
	for _, no := range noViews() {
		noBoth(t, no.want, no.v, of(1, 0, 1))
		noBoth(t, no.want, of(1, 0, 1), no.v)
		for _, other := range second {
			noBoth(t, no.want, no.v, other.v)
			noBoth(t, other.want, other.v, no.v)
		}
	}
}

// roomy is a list with memory behind its length, and all of that memory. What lies behind would be a
// fault, or one more member, if it were read.
func roomy(behind int, has ...int) ([]int, []int) {
	whole := append(slices.Clone(has), behind, behind, behind)
	return whole[:len(has)], whole
}

func TestArgumentsStayAsTheyAre(t *testing.T) {
	for _, behind := range []int{4, 0, -77} {
		a, wholeA := roomy(behind, 0, 1, 2)
		b, wholeB := roomy(behind, 1, 2, 3)
		wasA, wasB := slices.Clone(wholeA), slices.Clone(wholeB)
		views := []api.View{{N: 1, Has: a}, {N: 2, Has: b}, {N: 9, Has: []int{4}}}
		l := views[:2]
		right(t, l[0])
		goesOn(t, l[0], b...)
		bothAre(t, l[0], l[1], 1, 2)
		holds(t, l...)
		breaks(t, 2, api.ErrShape, views...)
		endsAt(t, api.ErrOut, of(1, 0, 4), b...)
		endsAt(t, api.ErrNone, l[0], a[:0]...)
		breaks(t, 1, api.ErrNone, l[0], api.View{N: 2, Has: b[:0]})
		noBoth(t, api.ErrNone, l[1], api.View{N: 2, Has: a[:0]})
		if !slices.Equal(wholeA, wasA) || !slices.Equal(wholeB, wasB) {
			t.Fatalf("lists became %v and %v, were %v and %v", wholeA, wholeB, wasA, wasB)
		}
		for i, want := range []api.View{of(1, 0, 1, 2), of(2, 1, 2, 3), of(9, 4)} {
			if !isSame(views[i], want) {
				t.Fatalf("view %d of the list became %v, was %v", i, views[i], want)
			}
		}
	}
}

// scrawl writes into all memory of a list, that behind its length too.
func scrawl(l []int) {
	l = l[:cap(l)]
	for i := range l {
		l[i] = -5
	}
}

// fresh asks that what is answered is the caller's own: no other answer, and no list of those that were
// handed in, has a share in it.
func fresh(t *testing.T, ask func() ([]int, error), handed ...[]int) {
	t.Helper()
	var was [][]int
	for _, l := range handed {
		was = append(was, slices.Clone(l))
	}
	first, err := ask()
	second, bad := ask()
	if err != nil || bad != nil || len(first) == 0 || !slices.Equal(first, second) {
		t.Fatalf("asked twice: %v, %v and %v, %v", first, err, second, bad)
	}
	want := slices.Clone(first)
	scrawl(first)
	if !slices.EqualFunc(handed, was, slices.Equal) {
		t.Fatalf("writing into an answer changed what was handed in to %v", handed)
	}
	if third, err := ask(); !slices.Equal(second, want) || !slices.Equal(third, want) || err != nil {
		t.Fatalf("writing into an answer changed others to %v and %v, %v, want %v", second, third, err, want)
	}
	for _, l := range handed {
		scrawl(l)
	}
	if !slices.Equal(second, want) {
		t.Fatalf("writing into what was handed in changed an answer to %v, want %v", second, want)
	}
}

func TestWhatNextAnswersIsTheCallersOwn(t *testing.T) {
	for _, had := range groups() {
		for _, has := range [][]int{slices.Clone(had), all(api.Members)} {
			a, wholeA := roomy(4, had...)
			b, wholeB := roomy(4, has...)
			fresh(t, func() ([]int, error) {
				v, err := Next(api.View{N: 1, Has: a}, b)
				return v.Has, err
			}, wholeA, wholeB)
		}
		same, whole := roomy(4, had...)
		fresh(t, func() ([]int, error) {
			v, err := Next(api.View{N: 1, Has: same}, same)
			return v.Has, err
		}, whole)
	}
}

func TestWhatBothAnswersIsTheCallersOwn(t *testing.T) {
	for _, has := range groups() {
		for _, other := range [][]int{slices.Clone(has), all(api.Members)} {
			a, wholeA := roomy(4, has...)
			b, wholeB := roomy(4, other...)
			fresh(t, func() ([]int, error) { return Both(api.View{N: 1, Has: a}, api.View{N: 2, Has: b}) }, wholeA, wholeB)
		}
		same, whole := roomy(4, has...)
		fresh(t, func() ([]int, error) { return Both(api.View{N: 1, Has: same}, api.View{N: 1, Has: same}) }, whole)
	}
}

// What was asked once is not kept: the same memory with other members in it is another view.
func TestListsMayBeChangedByTheirOwners(t *testing.T) {
	has := []int{0, 1, 2}
	v := api.View{N: 1, Has: has}
	l := []api.View{v, of(2, 0, 1)}
	next := goesOn(t, v, has...)
	holds(t, l...)
	bothAre(t, v, l[1], 0, 1)
	copy(has, []int{2, 3, 4})
	right(t, v)
	breaks(t, 1, api.ErrOut, l...)
	bothAre(t, v, l[1])
	endsAt(t, api.ErrOut, v, 0, 1, 2)
	copy(has, []int{1, 1, 1})
	wrong(t, api.ErrShape, v)
	endsAt(t, api.ErrShape, v, 1)
	breaks(t, 0, api.ErrShape, l...)
	noBoth(t, api.ErrShape, v, l[1])
	copy(has, []int{0, 1, 2})
	l[1] = of(3, 0, 1)
	breaks(t, 1, api.ErrShape, l...)
	if !isSame(next, of(2, 0, 1, 2)) {
		t.Errorf("an earlier answer became %v", next)
	}
}
