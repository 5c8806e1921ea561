package flush

import (
	"math"
	"slices"
	"testing"

	"mootbell/api"
	"mootbell/plain"
)

// call is one of what a group is asked, but for View and Heard: of a change, has are those who are in
// the next View.
type call struct {
	what      string
	who, word int
	has       []int
}

func say(who, word int) call { return call{what: "say", who: who, word: word} }

func give(who, word int) call { return call{what: "give", who: who, word: word} }

func change(has ...int) call { return call{what: "change", has: has} }

// told is what a call answers: what it does not answer is empty.
type told struct {
	v     api.View
	errno api.Errno
}

func isSame(a, b api.View) bool { return a.N == b.N && slices.Equal(a.Has, b.Has) }

func (x told) is(y told) bool { return isSame(x.v, y.v) && x.errno == y.errno }

// asked lets a group do what is asked of it.
func asked(f *Flush, c call) told {
	switch c.what {
	case "say":
		return told{errno: plain.Told(f.Say(c.who, c.word))}
	case "give":
		return told{errno: plain.Told(f.Give(c.who, c.word))}
	}
	v, err := f.Change(c.has)
	return told{v: v, errno: plain.Told(err)}
}

// all are the members 0 to n - 1.
func all(n int) []int {
	var has []int
	for who := range n {
		has = append(has, who)
	}
	return has
}

// group makes a new one.
func group(t *testing.T, n int) *Flush {
	t.Helper()
	f, err := New(n)
	if err != nil || f == nil {
		t.Fatalf("New(%d) = %v, %v", n, f, err)
	}
	return f
}

// says has one say words in the View.
func says(t *testing.T, f *Flush, who int, words ...int) {
	t.Helper()
	for _, word := range words {
		if err := f.Say(who, word); err != nil {
			t.Fatalf("Say(%d, %d) told %v", who, word, err)
		}
	}
}

// gives has one hear words of the View.
func gives(t *testing.T, f *Flush, who int, words ...int) {
	t.Helper()
	for _, word := range words {
		if err := f.Give(who, word); err != nil {
			t.Fatalf("Give(%d, %d) told %v", who, word, err)
		}
	}
}

// becomes changes the View to that of a number, and of those who are told.
func becomes(t *testing.T, f *Flush, n int, has ...int) {
	t.Helper()
	want := api.View{N: n, Has: has}
	if got, err := f.Change(has); !isSame(got, want) || err != nil {
		t.Fatalf("Change(%v) = %v, %v, want %v", has, got, err, want)
	}
	is(t, f, n, has...)
}

// is asks which View it is.
func is(t *testing.T, f *Flush, n int, has ...int) {
	t.Helper()
	want := api.View{N: n, Has: has}
	if got := f.View(); !isSame(got, want) {
		t.Fatalf("View() = %v, want %v", got, want)
	}
}

// heard holds what a member heard in the View of a number against what is asked for.
func heard(t *testing.T, f *Flush, who, n int, want ...int) {
	t.Helper()
	if got, err := f.Heard(who, n); !slices.Equal(got, want) || err != nil {
		t.Fatalf("Heard(%d, %d) = %v, %v, want %v", who, n, got, err, want)
	}
}

// allHeard asks for the same of several members.
func allHeard(t *testing.T, f *Flush, members []int, n int, want ...int) {
	t.Helper()
	for _, who := range members {
		heard(t, f, who, n, want...)
	}
}

// nobodyElse asks that in the View of a number nobody heard anything but those who are told.
func nobodyElse(t *testing.T, f *Flush, n int, but ...int) {
	t.Helper()
	for who := range api.Members {
		if !slices.Contains(but, who) {
			heard(t, f, who, n)
		}
	}
}

// looks at which View it is, and at what each member heard in each one.
func looks(t *testing.T, f *Flush) [][]int {
	t.Helper()
	v := f.View()
	seen := [][]int{{v.N}, v.Has}
	for who := range api.Members {
		for n := range v.N + 1 {
			words, err := f.Heard(who, n)
			if err != nil {
				t.Fatalf("Heard(%d, %d) told %v", who, n, err)
			}
			seen = append(seen, words)
		}
	}
	return seen
}

// refuses asks for what is told to be wrong: nothing is answered, nor does anything change that can be
// looked at.
func refuses(t *testing.T, f *Flush, want api.Errno, calls ...call) {
	t.Helper()
	for _, c := range calls {
		ahead := looks(t, f)
		if got := asked(f, c); got.errno != want || got.v.N != 0 || got.v.Has != nil {
			t.Fatalf("%v = %v, want nothing, %v", c, got, want)
		}
		if behind := looks(t, f); !slices.EqualFunc(ahead, behind, slices.Equal) {
			t.Fatalf("%v changed what there is from %v to %v", c, ahead, behind)
		}
	}
}

// noHeard asks what was heard where something is wrong.
func noHeard(t *testing.T, f *Flush, who, n int) {
	t.Helper()
	if got, err := f.Heard(who, n); got != nil || plain.Told(err) != api.ErrRange {
		t.Fatalf("Heard(%d, %d) = %v, %v, want nothing, %v", who, n, got, err, api.ErrRange)
	}
}

// noGroups are numbers of members that no group begins with.
func noGroups() []int {
	return []int{math.MinInt, math.MinInt32, -api.Members, -2, -1, 0, 1, api.Members + 1, api.Members + 2, api.MaxWords, api.MaxCount, math.MaxInt32, math.MaxInt}
}

// noWords are numbers that no word is.
func noWords() []int {
	return []int{math.MinInt, math.MinInt32, -api.MaxWords, -1, 0, api.MaxWords + 1, api.MaxWords + 2, api.MaxCount, math.MaxInt32, math.MaxInt}
}

// noMembers are numbers that no member is.
func noMembers() []int {
	return []int{math.MinInt, math.MinInt32, -api.Members, -2, -1, api.Members, api.Members + 1, api.MaxWords, api.MaxCount, math.MaxInt32, math.MaxInt}
}

// noViews are numbers that no View had where the last one has that number.
func noViews(last int) []int {
	return []int{math.MinInt, math.MinInt32, -last - 1, -2, -1, last + 1, last + 2, api.MaxCount + 1, math.MaxInt32, math.MaxInt}
}

// rising is the numbers from one to another one.
func rising(from, to int) []int {
	var l []int
	for n := from; n <= to; n++ {
		l = append(l, n)
	}
	return l
}

// backwards is a list the other way round.
func backwards(l []int) []int {
	l = slices.Clone(l)
	slices.Reverse(l)
	return l
}

func TestGroupsOfAllSizes(t *testing.T) {
	for n := 2; n <= api.Members; n++ {
		f := group(t, n)
		is(t, f, 0, all(n)...)
		nobodyElse(t, f, 0)
		for who := range n {
			says(t, f, who, who+1)
			heard(t, f, who, 0, who+1)
		}
		for who := range n {
			gives(t, f, who, (who+1)%n+1)
			heard(t, f, who, 0, who+1, (who+1)%n+1)
		}
		for who := n; who < api.Members; who++ {
			refuses(t, f, api.ErrOut, say(who, 20), give(who, 1), say(who, 1), give(who, 20))
			heard(t, f, who, 0)
		}
		is(t, f, 0, all(n)...)
	}
}

func TestNoGroup(t *testing.T) {
	for _, n := range noGroups() {
		if f, err := New(n); f != nil || plain.Told(err) != api.ErrRange {
			t.Errorf("New(%d) = %v, %v, want nothing, %v", n, f, err, api.ErrRange)
		}
	}
}

func TestWhoSaysAWordHasHeardIt(t *testing.T) {
	f := group(t, 3)
	says(t, f, 1, 7)
	heard(t, f, 1, 0, 7)
	nobodyElse(t, f, 0, 1)
	refuses(t, f, api.ErrClash, give(1, 7))
	gives(t, f, 0, 7)
	heard(t, f, 0, 0, 7)
	nobodyElse(t, f, 0, 0, 1)
	refuses(t, f, api.ErrClash, give(0, 7), give(1, 7))
}

// What a member heard stands as it came to it, whether it said it or was given it.
func TestHeardInTheOrderOfEach(t *testing.T) {
	f := group(t, 3)
	says(t, f, 0, 9, 4)
	says(t, f, 1, 6)
	gives(t, f, 1, 4, 9)
	gives(t, f, 2, 6)
	says(t, f, 2, 1)
	gives(t, f, 2, 9, 4)
	gives(t, f, 0, 1, 6)
	heard(t, f, 0, 0, 9, 4, 1, 6)
	heard(t, f, 1, 0, 6, 4, 9)
	heard(t, f, 2, 0, 6, 1, 9, 4)
}

// The first word and the last one, and all between.
func TestAllWordsThatThereCanBe(t *testing.T) {
	words := rising(1, api.MaxWords)
	for n := 2; n <= api.Members; n++ {
		for _, order := range [][]int{words, backwards(words), append(rising(15, api.MaxWords), rising(1, 14)...)} {
			f := group(t, n)
			for i, word := range order {
				refuses(t, f, api.ErrNone, give(0, word), give(n-1, word))
				says(t, f, i%n, word)
				refuses(t, f, api.ErrClash, give(i%n, word), say(i%n, word), say((i+1)%n, word))
				gives(t, f, (i+1)%n, word)
				refuses(t, f, api.ErrClash, give((i+1)%n, word), say((i+1)%n, word), say(i%n, order[0]))
			}
			for _, word := range words {
				refuses(t, f, api.ErrClash, say(0, word), say(n-1, word))
			}
			becomes(t, f, 1, all(n)...)
			for who := range n {
				mine := func(i int) bool { return i%n == who || (i+1)%n == who }
				var first, rest []int
				for i, word := range order {
					if mine(i) {
						first = append(first, word)
					} else {
						rest = append(rest, word)
					}
				}
				heard(t, f, who, 0, append(first, rest...)...)
			}
		}
	}
}

func TestSayTellsTheFirstFault(t *testing.T) {
	f := group(t, 4)
	says(t, f, 0, 7)
	becomes(t, f, 1, 0, 1, 2)
	says(t, f, 1, 8)
	for _, who := range noMembers() {
		refuses(t, f, api.ErrRange, say(who, 1), say(who, 7), say(who, 8))
		for _, word := range noWords() {
			refuses(t, f, api.ErrRange, say(who, word))
		}
	}
	for _, word := range noWords() {
		for who := range api.Members {
			refuses(t, f, api.ErrRange, say(who, word))
		}
	}
	for _, who := range []int{3, 4} {
		refuses(t, f, api.ErrOut, say(who, 1), say(who, 7), say(who, 8), say(who, api.MaxWords))
	}
	for who := range 3 {
		refuses(t, f, api.ErrClash, say(who, 7), say(who, 8))
	}
	says(t, f, 2, 1, api.MaxWords)
	heard(t, f, 2, 1, 1, api.MaxWords)
}

func TestGiveTellsTheFirstFault(t *testing.T) {
	f := group(t, 4)
	says(t, f, 0, 7)
	becomes(t, f, 1, 0, 1, 2)
	says(t, f, 1, 8)
	for _, who := range noMembers() {
		refuses(t, f, api.ErrRange, give(who, 1), give(who, 7), give(who, 8))
		for _, word := range noWords() {
			refuses(t, f, api.ErrRange, give(who, word))
		}
	}
	for _, word := range noWords() {
		for who := range api.Members {
			refuses(t, f, api.ErrRange, give(who, word))
		}
	}
	for _, who := range []int{3, 4} {
		refuses(t, f, api.ErrOut, give(who, 1), give(who, 7), give(who, 8), give(who, api.MaxWords))
	}
	for who := range 3 {
		// Each of them heard 7, in the View ahead: that it was not said in this one is told first.
		refuses(t, f, api.ErrNone, give(who, 1), give(who, 7), give(who, api.MaxWords))
	}
	refuses(t, f, api.ErrClash, give(1, 8))
	gives(t, f, 0, 8)
	refuses(t, f, api.ErrClash, give(0, 8), give(1, 8))
	gives(t, f, 2, 8)
	allHeard(t, f, all(3), 1, 8)
}

// Who goes is out, who comes is in, from the Change on.
func TestOnlyThoseOfTheView(t *testing.T) {
	f := group(t, 3)
	refuses(t, f, api.ErrOut, say(3, 5), say(4, 5), give(3, 5), give(4, 5))
	becomes(t, f, 1, 1, 2, 4)
	refuses(t, f, api.ErrOut, say(0, 5), say(3, 5), give(0, 5), give(3, 5))
	says(t, f, 4, 5)
	gives(t, f, 1, 5)
	becomes(t, f, 2, 0, 1, 4)
	refuses(t, f, api.ErrOut, say(2, 6), say(3, 6), give(2, 6), give(3, 6))
	says(t, f, 0, 6)
	gives(t, f, 4, 6)
	heard(t, f, 4, 1, 5)
	heard(t, f, 4, 2, 6)
}

// A word is said once, whoever said it and whatever the View.
func TestAWordOfAnEarlierView(t *testing.T) {
	f := group(t, 3)
	says(t, f, 0, 7)
	gives(t, f, 1, 7)
	becomes(t, f, 1, all(3)...)
	for who := range 3 {
		refuses(t, f, api.ErrClash, say(who, 7))
		refuses(t, f, api.ErrNone, give(who, 7))
	}
	says(t, f, 1, 8)
	becomes(t, f, 2, 1, 2)
	becomes(t, f, 3, 0, 1, 2)
	for who := range 3 {
		refuses(t, f, api.ErrClash, say(who, 7), say(who, 8))
		refuses(t, f, api.ErrNone, give(who, 7), give(who, 8))
		heard(t, f, who, 3)
	}
}

// Also a word that is lost with those who go was said.
func TestALostWordIsNotSaidAgain(t *testing.T) {
	f := group(t, 3)
	says(t, f, 0, 7)
	becomes(t, f, 1, 1, 2)
	for _, who := range []int{1, 2} {
		heard(t, f, who, 0)
		refuses(t, f, api.ErrClash, say(who, 7))
		refuses(t, f, api.ErrNone, give(who, 7))
	}
	becomes(t, f, 2, 0, 1, 2)
	refuses(t, f, api.ErrClash, say(0, 7))
	refuses(t, f, api.ErrNone, give(0, 7))
	heard(t, f, 0, 0, 7)
}

func TestChangeOfTheSame(t *testing.T) {
	f := group(t, 4)
	says(t, f, 0, 3)
	says(t, f, 3, 2)
	gives(t, f, 1, 2)
	becomes(t, f, 1, all(4)...)
	heard(t, f, 0, 0, 3, 2)
	heard(t, f, 1, 0, 2, 3)
	heard(t, f, 2, 0, 3, 2)
	heard(t, f, 3, 0, 2, 3)
	heard(t, f, 4, 0)
	nobodyElse(t, f, 1)
}

func TestChangeOfFewer(t *testing.T) {
	f := group(t, 5)
	says(t, f, 0, 3)
	says(t, f, 4, 2)
	gives(t, f, 1, 2)
	becomes(t, f, 1, 0, 1, 3)
	heard(t, f, 0, 0, 3, 2)
	heard(t, f, 1, 0, 2, 3)
	heard(t, f, 2, 0)
	heard(t, f, 3, 0, 3, 2)
	heard(t, f, 4, 0, 2)
	nobodyElse(t, f, 1)
}

// Who comes hears nothing of the View ahead, neither there nor in the new one.
func TestChangeOfMore(t *testing.T) {
	f := group(t, 2)
	says(t, f, 0, 3)
	becomes(t, f, 1, all(5)...)
	allHeard(t, f, all(2), 0, 3)
	nobodyElse(t, f, 0, 0, 1)
	nobodyElse(t, f, 1)
	says(t, f, 4, 2)
	gives(t, f, 0, 2)
	becomes(t, f, 2, all(5)...)
	allHeard(t, f, all(5), 1, 2)
	allHeard(t, f, all(2), 0, 3)
	nobodyElse(t, f, 0, 0, 1)
	nobodyElse(t, f, 2)
}

// None, one, some, all of those who stay heard a word of one who goes.
func TestHowManyOfThoseWhoStayHeardIt(t *testing.T) {
	stay := []int{1, 2, 3}
	for bits := range 1 << len(stay) {
		f := group(t, 5)
		says(t, f, 0, 7)
		var had []int
		for i, who := range stay {
			if bits>>i&1 == 1 {
				gives(t, f, who, 7)
				had = append(had, who)
			}
		}
		allHeard(t, f, had, 0, 7)
		nobodyElse(t, f, 0, append(had, 0)...)
		becomes(t, f, 1, stay...)
		heard(t, f, 0, 0, 7)
		heard(t, f, 4, 0)
		if len(had) == 0 {
			allHeard(t, f, stay, 0)
		} else {
			allHeard(t, f, stay, 0, 7)
		}
	}
}

// Those who stay hear by the order of the saying, whatever the order in which any of them heard.
func TestHeardAtAChangeInTheOrderOfTheSaying(t *testing.T) {
	f := group(t, 5)
	says(t, f, 0, 9)
	says(t, f, 1, 2)
	says(t, f, 0, 30, 1)
	says(t, f, 1, 5)
	gives(t, f, 2, 5, 1, 30, 2, 9)
	gives(t, f, 3, 30)
	becomes(t, f, 1, 2, 3, 4)
	heard(t, f, 0, 0, 9, 30, 1)
	heard(t, f, 1, 0, 2, 5)
	heard(t, f, 2, 0, 5, 1, 30, 2, 9)
	heard(t, f, 3, 0, 30, 9, 2, 1, 5)
	heard(t, f, 4, 0, 9, 2, 30, 1, 5)
}

// Each word has another one who stays and heard it: the order is that of the words, not of the members.
func TestHeardAtAChangeOfSeveral(t *testing.T) {
	f := group(t, 4)
	says(t, f, 3, 10)
	says(t, f, 1, 20)
	says(t, f, 2, 11)
	says(t, f, 0, 21)
	becomes(t, f, 1, all(4)...)
	heard(t, f, 0, 0, 21, 10, 20, 11)
	heard(t, f, 1, 0, 20, 10, 11, 21)
	heard(t, f, 2, 0, 11, 10, 20, 21)
	heard(t, f, 3, 0, 10, 20, 11, 21)
}

// A word of one who goes: one who stays heard it, or nobody who stays.
func TestAWordOfOneWhoGoes(t *testing.T) {
	f := group(t, 5)
	says(t, f, 4, 6, 5, 8)
	gives(t, f, 0, 5)
	gives(t, f, 3, 6)
	becomes(t, f, 1, 0, 1, 2)
	allHeard(t, f, all(3), 0, 5)
	heard(t, f, 3, 0, 6)
	heard(t, f, 4, 0, 6, 5, 8)
	nobodyElse(t, f, 1)
}

// Who goes hears nothing at the Change, neither a word of one who stays nor of another who goes.
func TestWhoGoesHearsNoMore(t *testing.T) {
	f := group(t, 5)
	says(t, f, 0, 7)
	says(t, f, 3, 8)
	gives(t, f, 1, 8)
	becomes(t, f, 1, 0, 1, 2)
	heard(t, f, 0, 0, 7, 8)
	heard(t, f, 1, 0, 8, 7)
	heard(t, f, 2, 0, 7, 8)
	heard(t, f, 3, 0, 8)
	heard(t, f, 4, 0)
}

// One who goes and comes back begins with nothing heard, and never hears what was said meanwhile; what
// it heard ahead of that stays.
func TestOneWhoComesBack(t *testing.T) {
	f := group(t, 3)
	says(t, f, 2, 4)
	becomes(t, f, 1, 0, 1)
	says(t, f, 0, 5)
	becomes(t, f, 2, 0, 1, 2)
	heard(t, f, 2, 0, 4)
	heard(t, f, 2, 1)
	heard(t, f, 2, 2)
	says(t, f, 2, 6)
	refuses(t, f, api.ErrNone, give(2, 4), give(2, 5), give(0, 4), give(0, 5))
	refuses(t, f, api.ErrClash, say(2, 4), say(2, 5))
	becomes(t, f, 3, 0, 2)
	heard(t, f, 0, 0)
	heard(t, f, 0, 1, 5)
	heard(t, f, 1, 1, 5)
	heard(t, f, 0, 2, 6)
	heard(t, f, 1, 2)
	heard(t, f, 2, 2, 6)
	nobodyElse(t, f, 3)
}

// A Change tells those who stay of the View ahead alone.
func TestAChangeIsOfOneView(t *testing.T) {
	f := group(t, 4)
	says(t, f, 0, 4)
	becomes(t, f, 1, 1, 2, 3)
	says(t, f, 1, 5)
	becomes(t, f, 2, 0, 1, 2, 3)
	becomes(t, f, 3, 0, 1, 2, 3)
	heard(t, f, 0, 0, 4)
	nobodyElse(t, f, 0, 0)
	heard(t, f, 0, 1)
	allHeard(t, f, []int{1, 2, 3}, 1, 5)
	nobodyElse(t, f, 2)
	nobodyElse(t, f, 3)
}

// Of all Views, one behind the other: the first, those between, and the one that is.
func TestManyChanges(t *testing.T) {
	f := group(t, 5)
	groups := [][]int{all(5), {0, 1, 2}, {1, 2}, {0, 1, 2, 3, 4}, {2, 3, 4}, {3, 4}}
	for word := 1; word <= api.MaxWords; word++ {
		n := word - 1
		now := groups[n%len(groups)]
		is(t, f, n, now...)
		says(t, f, now[1], word)
		becomes(t, f, n+1, groups[(n+1)%len(groups)]...)
	}
	for word := 1; word <= api.MaxWords; word++ {
		n := word - 1
		now, next := groups[n%len(groups)], groups[(n+1)%len(groups)]
		lost := !slices.Contains(next, now[1])
		for who := range api.Members {
			stays := slices.Contains(now, who) && slices.Contains(next, who)
			if who == now[1] || stays && !lost {
				heard(t, f, who, n, word)
			} else {
				heard(t, f, who, n)
			}
		}
	}
	nobodyElse(t, f, api.MaxWords)
}

func TestChangeOfFewAtOnce(t *testing.T) {
	f := group(t, 2)
	refuses(t, f, api.ErrOut, change(0), change(1), change(2), change(0, 2, 3, 4), change(2, 3, 4))
	f = group(t, 5)
	refuses(t, f, api.ErrOut, change(0), change(0, 4), change(2, 3))
	becomes(t, f, 1, 0, 2, 4)
	refuses(t, f, api.ErrOut, change(0), change(1, 3), change(1, 2, 3))
	becomes(t, f, 2, 2, 4)
	refuses(t, f, api.ErrOut, change(2), change(4), change(0, 1, 2, 3), change(0, 1, 3))
	becomes(t, f, 3, 0, 1, 2, 3, 4)
}

// noChanges have each fault that Next finds with those who are told, by itself and with others.
func noChanges() map[api.Errno][]call {
	calls := map[api.Errno][]call{
		api.ErrNone:  {change(), {what: "change", has: []int{}}},
		api.ErrShape: {change(0, 0), change(1, 0), change(0, 1, 1), change(0, 2, 1), change(0, 1, 2, 2), change(4, 3, 2, 1, 0), change(4, 4), change(0, 1, 2, 0), change(1, 1, -1), change(3, 3, api.Members)},
		// Of the members 0 to 3 just half, or fewer.
		api.ErrOut: {change(0), change(4), change(0, 1), change(2, 3), change(0, 4), change(1, 2, 4)},
	}
	for _, who := range noMembers() {
		calls[api.ErrRange] = append(calls[api.ErrRange], change(who), change(0, who), change(0, 1, 2, who), change(who, 1, 1), change(0, who, 0), change(4, who))
	}
	return calls
}

func TestChangeTellsWhatNextTells(t *testing.T) {
	f := group(t, 4)
	says(t, f, 0, 7)
	says(t, f, 3, 6)
	gives(t, f, 1, 6)
	for errno, calls := range noChanges() {
		refuses(t, f, errno, calls...)
	}
	becomes(t, f, 1, 0, 1, 2, 3)
	says(t, f, 2, 5)
	for errno, calls := range noChanges() {
		refuses(t, f, errno, calls...)
	}
	// What was refused lets nobody hear: who goes heard no more than it did.
	becomes(t, f, 2, 0, 1, 3)
	heard(t, f, 0, 0, 7, 6)
	heard(t, f, 1, 0, 6, 7)
	heard(t, f, 2, 0, 7, 6)
	heard(t, f, 3, 0, 6, 7)
	heard(t, f, 2, 1, 5)
	nobodyElse(t, f, 1, 2)
}

// What was refused is not said, not heard, and nobody came or went by it.
func TestWhatIsRefusedWasNot(t *testing.T) {
	f := group(t, 3)
	refuses(t, f, api.ErrOut, say(3, 7), say(4, 8))
	refuses(t, f, api.ErrRange, say(-1, 9), say(api.Members, 10))
	refuses(t, f, api.ErrNone, give(0, 7), give(0, 8), give(0, 9), give(0, 10))
	refuses(t, f, api.ErrOut, change(0, 3, 4))
	refuses(t, f, api.ErrOut, say(3, 7), give(3, 7))
	says(t, f, 0, 10, 9, 8, 7)
	refuses(t, f, api.ErrClash, say(1, 7))
	gives(t, f, 1, 7)
	refuses(t, f, api.ErrNone, give(2, 11))
	says(t, f, 2, 11)
	refuses(t, f, api.ErrClash, say(0, 11), give(2, 11))
	gives(t, f, 0, 11)
	becomes(t, f, 1, 1, 2, 3)
	heard(t, f, 0, 0, 10, 9, 8, 7, 11)
	heard(t, f, 1, 0, 7, 11)
	heard(t, f, 2, 0, 11, 7)
	nobodyElse(t, f, 0, 0, 1, 2)
}

// The word that was refused twice, of one and of another, stands once among those that were said.
func TestARefusedWordChangesNoOrder(t *testing.T) {
	f := group(t, 3)
	says(t, f, 0, 1)
	says(t, f, 1, 2)
	refuses(t, f, api.ErrClash, say(1, 1), say(0, 1))
	refuses(t, f, api.ErrOut, say(4, 3))
	says(t, f, 0, 3)
	becomes(t, f, 1, all(3)...)
	heard(t, f, 0, 0, 1, 3, 2)
	heard(t, f, 1, 0, 2, 1, 3)
	heard(t, f, 2, 0, 1, 2, 3)
}

func TestHeardOfNoMemberAndNoView(t *testing.T) {
	f := group(t, 2)
	says(t, f, 0, 7)
	for last := range 4 {
		is(t, f, last, 0, 1)
		for who := range api.Members {
			for _, n := range noViews(last) {
				noHeard(t, f, who, n)
			}
		}
		for _, who := range noMembers() {
			for n := range last + 1 {
				noHeard(t, f, who, n)
			}
			for _, n := range noViews(last) {
				noHeard(t, f, who, n)
			}
		}
		heard(t, f, 0, 0, 7)
		heard(t, f, 0, last, []int{7}[:min(1, max(0, 1-last))]...)
		becomes(t, f, last+1, 0, 1)
	}
}

// One who is in no View yet, and one who was in none at all, heard nothing: that is no fault.
func TestHeardOfOneWhoIsNotInTheView(t *testing.T) {
	f := group(t, 2)
	says(t, f, 0, 7)
	allHeard(t, f, []int{1, 2, 3, 4}, 0)
	becomes(t, f, 1, 0, 1, 3)
	says(t, f, 3, 8)
	allHeard(t, f, []int{2, 3, 4}, 0)
	allHeard(t, f, []int{0, 1, 2, 4}, 1)
	heard(t, f, 3, 1, 8)
}

// The number of the last View that there can be: beyond it none is, whoever would be in it.
func TestChangesUntilTheLastNumber(t *testing.T) {
	f := group(t, 3)
	says(t, f, 0, 1)
	for n := 1; n <= api.MaxCount; n++ {
		switch n {
		case 2:
			says(t, f, 1, 2)
		case api.MaxCount / 2:
			says(t, f, 2, 3)
		case api.MaxCount:
			says(t, f, 0, 4)
		}
		if v, err := f.Change([]int{0, 1, 2}); v.N != n || len(v.Has) != 3 || err != nil {
			t.Fatalf("Change to the View of number %d = %v, %v", n, v, err)
		}
	}
	says(t, f, 1, 30)
	seen := func() {
		t.Helper()
		is(t, f, api.MaxCount, 0, 1, 2)
		allHeard(t, f, all(3), 0, 1)
		allHeard(t, f, all(3), 1, 2)
		allHeard(t, f, all(3), 2)
		allHeard(t, f, all(3), api.MaxCount/2-1, 3)
		allHeard(t, f, all(3), api.MaxCount/2)
		allHeard(t, f, all(3), api.MaxCount-1, 4)
		heard(t, f, 1, api.MaxCount, 30)
		nobodyElse(t, f, api.MaxCount, 1)
		noHeard(t, f, 1, api.MaxCount+1)
	}
	seen()
	for _, has := range [][]int{{0, 1, 2}, {0, 1}, {0, 1, 2, 3, 4}, {0}, {3, 4}, {}, {-1}, {0, api.Members}, {1, 1}} {
		if v, err := f.Change(has); v.N != 0 || v.Has != nil || plain.Told(err) != api.ErrFull {
			t.Fatalf("Change(%v) = %v, %v, want nothing, %v", has, v, err, api.ErrFull)
		}
	}
	seen()
	gives(t, f, 2, 30)
	heard(t, f, 2, api.MaxCount, 30)
}

// roomy is a list with memory behind its length, and all of that memory. What lies behind would be a
// fault, or one more member, if it were read.
func roomy(behind int, has ...int) ([]int, []int) {
	whole := append(slices.Clone(has), behind, behind, behind)
	return whole[:len(has)], whole
}

// scrawl writes into all memory of a list, that behind its length too.
func scrawl(l []int) {
	l = l[:cap(l)]
	for i := range l {
		l[i] = -5
	}
}

func TestArgumentsStayAsTheyAre(t *testing.T) {
	for _, behind := range []int{4, 0, -77} {
		f := group(t, 3)
		says(t, f, 0, 7)
		has, whole := roomy(behind, 0, 1, 2)
		was := slices.Clone(whole)
		becomes(t, f, 1, has...)
		becomes(t, f, 2, has[1:]...)
		refuses(t, f, api.ErrNone, change(has[:0]...))
		refuses(t, f, api.ErrOut, change(has[:2]...))
		says(t, f, 1, 8)
		becomes(t, f, 3, has...)
		if !slices.Equal(whole, was) {
			t.Fatalf("the list became %v, was %v", whole, was)
		}
	}
}

// A list that was handed in may become anything later: the View stays that of those who were told.
func TestListsMayBeChangedByTheirOwners(t *testing.T) {
	f := group(t, 4)
	has, whole := roomy(4, 0, 1, 2)
	becomes(t, f, 1, has...)
	scrawl(whole)
	is(t, f, 1, 0, 1, 2)
	says(t, f, 2, 7)
	refuses(t, f, api.ErrOut, say(3, 8), give(3, 7), change(2, 3, 4))
	copy(has, []int{1, 2, 3})
	is(t, f, 1, 0, 1, 2)
	becomes(t, f, 2, has...)
	scrawl(whole)
	allHeard(t, f, []int{1, 2}, 1, 7)
	nobodyElse(t, f, 1, 1, 2)
	is(t, f, 2, 1, 2, 3)
	refuses(t, f, api.ErrOut, say(0, 8))
}

// Nothing that a caller writes into what it was answered is seen by the group, nor by another answer.
func TestAnswersAreTheCallersOwn(t *testing.T) {
	f := group(t, 4)
	says(t, f, 0, 7, 8)
	gives(t, f, 1, 8)
	asks := func(n int) []func() []int {
		return []func() []int{
			func() []int { return f.View().Has },
			func() []int {
				words, _ := f.Heard(0, n)
				return words
			},
			func() []int {
				words, _ := f.Heard(1, n)
				return words
			},
		}
	}
	stay := func(n int) {
		t.Helper()
		was := looks(t, f)
		for _, ask := range asks(n) {
			first, second := ask(), ask()
			want := slices.Clone(second)
			if len(first) == 0 {
				t.Fatal("nothing to write into")
			}
			scrawl(first)
			if !slices.Equal(second, want) || !slices.Equal(ask(), want) {
				t.Fatalf("writing into an answer changed others: %v, %v, want %v", second, ask(), want)
			}
		}
		if got := looks(t, f); !slices.EqualFunc(got, was, slices.Equal) {
			t.Fatalf("writing into answers changed what there is from %v to %v", was, got)
		}
	}
	stay(0)
	has := []int{0, 1, 2}
	v, err := f.Change(has)
	if err != nil {
		t.Fatal(err)
	}
	scrawl(v.Has)
	is(t, f, 1, 0, 1, 2)
	if !slices.Equal(has, []int{0, 1, 2}) {
		t.Fatalf("writing into an answer changed what was handed in to %v", has)
	}
	refuses(t, f, api.ErrOut, say(3, 9))
	stay(0)
	says(t, f, 1, 9)
	says(t, f, 0, 10)
	stay(1)
	becomes(t, f, 2, 0, 1, 2)
	allHeard(t, f, []int{2}, 1, 9, 10)
	stay(1)
}

// Answers stay what they were, whatever comes later.
func TestAnswersStayAsTheyWere(t *testing.T) {
	f := group(t, 3)
	says(t, f, 0, 7)
	first := f.View()
	one, _ := f.Heard(0, 0)
	says(t, f, 0, 8)
	gives(t, f, 1, 8)
	two, _ := f.Heard(1, 0)
	second, err := f.Change([]int{0, 1})
	if err != nil {
		t.Fatal(err)
	}
	becomes(t, f, 2, 0, 1, 4)
	says(t, f, 0, 9)
	becomes(t, f, 3, 1, 4)
	if !isSame(first, api.View{N: 0, Has: []int{0, 1, 2}}) || !isSame(second, api.View{N: 1, Has: []int{0, 1}}) {
		t.Errorf("earlier Views became %v and %v", first, second)
	}
	if !slices.Equal(one, []int{7}) || !slices.Equal(two, []int{8}) {
		t.Errorf("what was heard earlier became %v and %v", one, two)
	}
}

func TestTwoGroupsShareNothing(t *testing.T) {
	one, other := group(t, 3), group(t, 3)
	says(t, one, 0, 7)
	refuses(t, other, api.ErrNone, give(1, 7))
	says(t, other, 1, 7)
	becomes(t, one, 1, 0, 1)
	is(t, other, 0, 0, 1, 2)
	heard(t, other, 1, 0, 7)
	nobodyElse(t, other, 0, 1)
	allHeard(t, one, all(2), 0, 7)
	nobodyElse(t, one, 0, 0, 1)
}

// To look changes nothing, however often.
func TestLooksChangeNothing(t *testing.T) {
	f := group(t, 4)
	says(t, f, 0, 7)
	gives(t, f, 3, 7)
	was := looks(t, f)
	for range 3 {
		if got := looks(t, f); !slices.EqualFunc(got, was, slices.Equal) {
			t.Fatalf("looks became %v, were %v", got, was)
		}
	}
	becomes(t, f, 1, 0, 1, 2)
	allHeard(t, f, all(4), 0, 7)
}
