package agree

import (
	"math"
	"slices"
	"testing"

	"mootbell/api"
	"mootbell/plain"
)

// call is one of what a group is asked, but for Heard.
type call struct {
	what      string
	who, word int
}

func say(word int) call { return call{"say", 0, word} }

func propose(who, word int) call { return call{"propose", who, word} }

func settle(who, word int) call { return call{"settle", who, word} }

// told is what a call answers: what it does not answer is empty.
type told struct {
	stamp api.Stamp
	heard []int
	errno api.Errno
}

func (x told) is(y told) bool {
	return x.stamp == y.stamp && slices.Equal(x.heard, y.heard) && x.errno == y.errno
}

// asked lets a group do what is asked of it.
func asked(a *Agree, c call) told {
	switch c.what {
	case "say":
		return told{errno: plain.Told(a.Say(c.word))}
	case "propose":
		stamp, err := a.Propose(c.who, c.word)
		return told{stamp: stamp, errno: plain.Told(err)}
	}
	heard, err := a.Settle(c.who, c.word)
	return told{heard: heard, errno: plain.Told(err)}
}

// group makes a new one, in which some words are said.
func group(t *testing.T, n int, words ...int) *Agree {
	t.Helper()
	a, err := New(n)
	if err != nil || a == nil {
		t.Fatalf("New(%d) = %v, %v", n, a, err)
	}
	says(t, a, words...)
	return a
}

func says(t *testing.T, a *Agree, words ...int) {
	t.Helper()
	for _, word := range words {
		if err := a.Say(word); err != nil {
			t.Fatalf("Say(%d) told %v", word, err)
		}
	}
}

// gives has a member give a word a Stamp, with that N.
func gives(t *testing.T, a *Agree, who, word, n int) {
	t.Helper()
	want := api.Stamp{N: n, Who: who}
	if got, err := a.Propose(who, word); got != want || err != nil {
		t.Fatalf("Propose(%d, %d) = %v, %v, want %v", who, word, got, err, want)
	}
}

// giveInOrder has a member give Stamps to words, with N from one on.
func giveInOrder(t *testing.T, a *Agree, who, n int, words ...int) {
	t.Helper()
	for i, word := range words {
		gives(t, a, who, word, n+i)
	}
}

// settles has a member learn a word's Stamp, by which it hears some.
func settles(t *testing.T, a *Agree, who, word int, heard ...int) {
	t.Helper()
	if got, err := a.Settle(who, word); !slices.Equal(got, heard) || err != nil {
		t.Fatalf("Settle(%d, %d) = %v, %v, want %v", who, word, got, err, heard)
	}
}

// has holds all that a member heard against what is asked for.
func has(t *testing.T, a *Agree, who int, want ...int) {
	t.Helper()
	if got, err := a.Heard(who); !slices.Equal(got, want) || err != nil {
		t.Fatalf("Heard(%d) = %v, %v, want %v", who, got, err, want)
	}
}

// looks at what each member heard.
func looks(t *testing.T, a *Agree) [][]int {
	t.Helper()
	var all [][]int
	for who := range a.n {
		l, err := a.Heard(who)
		if err != nil {
			t.Fatalf("Heard(%d) told %v", who, err)
		}
		all = append(all, l)
	}
	return all
}

// refuses asks for what is told to be wrong, by which nothing is answered, and nothing heard.
func refuses(t *testing.T, a *Agree, want api.Errno, calls ...call) {
	t.Helper()
	for _, c := range calls {
		ahead := looks(t, a)
		got := asked(a, c)
		if got.errno != want || got.heard != nil || got.stamp != (api.Stamp{}) {
			t.Fatalf("%v = %v, want nothing, %v", c, got, want)
		}
		if behind := looks(t, a); !slices.EqualFunc(ahead, behind, slices.Equal) {
			t.Fatalf("%v changed what was heard from %v to %v", c, ahead, behind)
		}
	}
}

// noWords are numbers that no word is.
func noWords() []int {
	return []int{math.MinInt, math.MinInt32, -api.MaxWords, -1, 0, api.MaxWords + 1, api.MaxWords + 2, api.MaxCount, math.MaxInt32, math.MaxInt}
}

// noMembers are numbers that no member of a group of n is.
func noMembers(n int) []int {
	return []int{math.MinInt, math.MinInt32, -n, -2, -1, n, n + 1, api.Members, api.Members + 1, api.MaxCount, math.MaxInt32, math.MaxInt}
}

// rising is the numbers from one to another one.
func rising(from, to int) []int {
	var l []int
	for n := from; n <= to; n++ {
		l = append(l, n)
	}
	return l
}

// backwards is a list the other way round.
func backwards(l []int) []int {
	l = slices.Clone(l)
	slices.Reverse(l)
	return l
}

func TestGroupsOfAllSizes(t *testing.T) {
	for n := 2; n <= api.Members; n++ {
		a := group(t, n, 7)
		for who := range n {
			has(t, a, who)
			gives(t, a, who, 7, 1)
		}
		for who := range n {
			has(t, a, who)
			settles(t, a, who, 7, 7)
			has(t, a, who, 7)
		}
		for _, who := range noMembers(n) {
			if got, err := a.Heard(who); got != nil || plain.Told(err) != api.ErrRange {
				t.Errorf("in a group of %d: Heard(%d) = %v, %v, want nothing, %v", n, who, got, err, api.ErrRange)
			}
			refuses(t, a, api.ErrRange, propose(who, 7), settle(who, 7))
		}
	}
}

func TestNoGroup(t *testing.T) {
	for _, n := range []int{math.MinInt, math.MinInt32, -5, -2, -1, 0, 1, 6, 7, api.MaxCount, math.MaxInt32, math.MaxInt} {
		if a, err := New(n); a != nil || plain.Told(err) != api.ErrRange {
			t.Errorf("New(%d) = %v, %v, want nothing, %v", n, a, err, api.ErrRange)
		}
	}
}

func TestSayEachWordOnce(t *testing.T) {
	a := group(t, 2)
	for _, word := range append(rising(15, api.MaxWords), rising(1, 14)...) {
		refuses(t, a, api.ErrNone, propose(0, word), settle(0, word))
		says(t, a, word)
		refuses(t, a, api.ErrClash, say(word), say(word))
	}
	for word := 1; word <= api.MaxWords; word++ {
		refuses(t, a, api.ErrClash, say(word))
	}
}

func TestSayOnceMoreWhateverBecameOfIt(t *testing.T) {
	a := group(t, 2, 7)
	refuses(t, a, api.ErrClash, say(7))
	gives(t, a, 1, 7, 1)
	refuses(t, a, api.ErrClash, say(7))
	gives(t, a, 0, 7, 1)
	refuses(t, a, api.ErrClash, say(7))
	settles(t, a, 1, 7, 7)
	refuses(t, a, api.ErrClash, say(7))
	settles(t, a, 0, 7, 7)
	refuses(t, a, api.ErrClash, say(7))
	says(t, a, 8)
}

func TestSayNoWord(t *testing.T) {
	a := group(t, 5)
	for range 2 {
		for _, word := range noWords() {
			refuses(t, a, api.ErrRange, say(word))
		}
	}
	says(t, a, 1, api.MaxWords)
	for _, word := range noWords() {
		refuses(t, a, api.ErrRange, say(word))
	}
}

func TestNumbersCountFromOne(t *testing.T) {
	for n := 2; n <= api.Members; n++ {
		words := rising(1, api.MaxWords)
		a := group(t, n, words...)
		// Each counts for itself, whatever the others gave.
		giveInOrder(t, a, n-1, 1, words...)
		giveInOrder(t, a, 0, 1, backwards(words)...)
		for who := 1; who < n-1; who++ {
			giveInOrder(t, a, who, 1, slices.Concat(words[who:], words[:who])...)
		}
	}
}

func TestNumbersAreAboveWhatWasSettledThere(t *testing.T) {
	a := group(t, 2, 1, 2, 3, 4, 5)
	giveInOrder(t, a, 0, 1, 1, 2, 3)
	gives(t, a, 1, 3, 1)
	// The Stamp of 3 is {3 0}: above all that member 1 gave, but it knows that from Settle on alone.
	gives(t, a, 1, 4, 2)
	settles(t, a, 1, 3)
	gives(t, a, 1, 1, 4)
	gives(t, a, 1, 2, 5)
	// Member 0 did not learn of {4 1} and {5 1} yet.
	gives(t, a, 0, 4, 4)
	settles(t, a, 0, 2)
	gives(t, a, 0, 5, 6)
	settles(t, a, 0, 1)
	gives(t, a, 1, 5, 6)
}

func TestNumbersAreNotBelowWhatWasGiven(t *testing.T) {
	a := group(t, 2, 1, 2, 3, 4)
	giveInOrder(t, a, 0, 1, 1, 2, 3)
	giveInOrder(t, a, 1, 1, 1, 2)
	// {1 1} and {2 1} are below the 3 that member 0 gave, and the second one is as far as member 1 came.
	settles(t, a, 0, 1, 1)
	settles(t, a, 0, 2, 2)
	gives(t, a, 0, 4, 4)
	settles(t, a, 1, 2)
	gives(t, a, 1, 4, 3)
	settles(t, a, 1, 1, 1, 2)
	gives(t, a, 1, 3, 4)
}

// What was settled and heard counts on, and so does what was settled and waits.
func TestNumbersBehindWhatWasHeard(t *testing.T) {
	a := group(t, 3, rising(1, 9)...)
	giveInOrder(t, a, 2, 1, 1, 2, 3, 4, 5)
	gives(t, a, 0, 5, 1)
	gives(t, a, 1, 9, 1)
	gives(t, a, 1, 5, 2)
	settles(t, a, 0, 5, 5)
	gives(t, a, 0, 6, 6)
	settles(t, a, 1, 5)
	gives(t, a, 1, 6, 6)
	settles(t, a, 2, 5)
	gives(t, a, 2, 6, 6)
	// {6 2}: not above what they gave.
	settles(t, a, 0, 6, 6)
	settles(t, a, 1, 6)
	gives(t, a, 0, 7, 7)
	gives(t, a, 1, 7, 7)
}

func TestTheGreatestCounts(t *testing.T) {
	// Whoever gives the greatest, first or last: word 9 stands at {5 who}, and who learns that goes on
	// above it.
	for n := 2; n <= api.Members; n++ {
		for who := range n {
			for first := range n {
				a := group(t, n, rising(1, 9)...)
				giveInOrder(t, a, who, 1, 1, 2, 3, 4)
				for i := range n {
					member := (first + i) % n
					at := 1
					if member == who {
						at = 5
					}
					gives(t, a, member, 9, at)
				}
				for member := range n {
					if member == who {
						continue
					}
					gives(t, a, member, 8, 2)
					settles(t, a, member, 9)
					gives(t, a, member, 7, 6)
				}
			}
		}
	}
}

func TestSameNumberGoesByWho(t *testing.T) {
	for _, w := range [][2]int{{3, 5}, {5, 3}, {1, 30}, {30, 1}} {
		low, high := w[0], w[1]
		a := group(t, 2, high, low)
		// {2 0} and {2 1}.
		giveInOrder(t, a, 0, 1, high, low)
		giveInOrder(t, a, 1, 1, low, high)
		settles(t, a, 0, high)
		settles(t, a, 0, low, low, high)
		settles(t, a, 1, low, low)
		settles(t, a, 1, high, high)
		has(t, a, 0, low, high)
		has(t, a, 1, low, high)
	}
}

func TestSameNumberOfOneThatIsNotSettled(t *testing.T) {
	a := group(t, 3, 1, 2, 3, 4)
	giveInOrder(t, a, 0, 1, 3, 1)
	giveInOrder(t, a, 1, 1, 1, 2)
	giveInOrder(t, a, 2, 1, 1, 4)
	// 1 stands at {2 0}: ahead of {2 1}, with which 2 waits at member 1, and of {2 2} of 4 at member 2.
	settles(t, a, 1, 1, 1)
	settles(t, a, 2, 1, 1)
	gives(t, a, 0, 2, 3)
	gives(t, a, 1, 4, 3)
	gives(t, a, 2, 2, 3)
	gives(t, a, 0, 4, 4)
	// 2 stands at {3 2}: behind {3 1}, with which 4 waits at member 1, until it stands at {4 0}.
	settles(t, a, 1, 2)
	settles(t, a, 1, 4, 2, 4)
}

// Of two that were given with the same N the one of the greater Who counts, whoever gave his first.
func TestTheGreatestOfTheSameNumber(t *testing.T) {
	for _, order := range [][]int{{0, 1, 2}, {0, 2, 1}, {1, 0, 2}, {1, 2, 0}, {2, 0, 1}, {2, 1, 0}} {
		a := group(t, 3, 7, 8, 9)
		gives(t, a, 0, 9, 1)
		gives(t, a, 2, 9, 1)
		for _, who := range order {
			gives(t, a, who, 7, []int{2, 1, 2}[who])
		}
		// 7 stands at {2 2}: behind {2 1}, with which 8 waits at member 1.
		gives(t, a, 1, 8, 2)
		settles(t, a, 1, 7)
		gives(t, a, 0, 8, 3)
		gives(t, a, 2, 8, 3)
		settles(t, a, 1, 8, 7, 8)
	}
}

func TestNotAllGaveOne(t *testing.T) {
	for n := 2; n <= api.Members; n++ {
		for _, word := range []int{1, 17, api.MaxWords} {
			a := group(t, n, word)
			for gave := range n {
				// Neither who gave one nor who did not learns it.
				for who := range n {
					refuses(t, a, api.ErrState, settle(who, word), settle(who, word))
				}
				gives(t, a, n-1-gave, word, 1)
			}
			for who := range n {
				settles(t, a, who, word, word)
			}
		}
	}
}

func TestNotAllGaveOneToOneOfSeveral(t *testing.T) {
	a := group(t, 3, 1, 2, 3)
	giveInOrder(t, a, 0, 1, 1, 2)
	giveInOrder(t, a, 1, 1, 2)
	giveInOrder(t, a, 2, 1, 2, 1)
	for who := range 3 {
		refuses(t, a, api.ErrState, settle(who, 1), settle(who, 3))
		refuses(t, a, api.ErrNone, settle(who, 4))
	}
	settles(t, a, 1, 2, 2)
	for who := range 3 {
		refuses(t, a, api.ErrState, settle(who, 1), settle(who, 3))
	}
	refuses(t, a, api.ErrClash, settle(1, 2))
	settles(t, a, 0, 2)
	refuses(t, a, api.ErrClash, settle(0, 2))
	settles(t, a, 2, 2, 2)
}

func TestGiveTwice(t *testing.T) {
	a := group(t, 2, 7, 8)
	gives(t, a, 0, 8, 1)
	gives(t, a, 0, 7, 2)
	refuses(t, a, api.ErrClash, propose(0, 7), propose(0, 7), propose(0, 8))
	gives(t, a, 1, 7, 1)
	refuses(t, a, api.ErrClash, propose(0, 7), propose(1, 7))
	// Settled, and it waits; settled, and heard.
	settles(t, a, 0, 7)
	refuses(t, a, api.ErrClash, propose(0, 7), propose(0, 8))
	settles(t, a, 1, 7, 7)
	refuses(t, a, api.ErrClash, propose(1, 7))
	gives(t, a, 1, 8, 3)
	settles(t, a, 0, 8, 7, 8)
	refuses(t, a, api.ErrClash, propose(0, 7), propose(0, 8), propose(1, 7), propose(1, 8))
	says(t, a, 9)
	// What was refused counted nowhere.
	gives(t, a, 0, 9, 4)
	gives(t, a, 1, 9, 4)
}

func TestSettleTwice(t *testing.T) {
	a := group(t, 2, 7, 8)
	giveInOrder(t, a, 0, 1, 8, 7)
	giveInOrder(t, a, 1, 1, 8, 7)
	settles(t, a, 0, 7)
	// It waits there, and does so still.
	refuses(t, a, api.ErrClash, settle(0, 7), settle(0, 7))
	settles(t, a, 1, 7)
	settles(t, a, 0, 8, 8, 7)
	refuses(t, a, api.ErrClash, settle(0, 7), settle(0, 8), settle(1, 7))
	settles(t, a, 1, 8, 8, 7)
	refuses(t, a, api.ErrClash, settle(0, 7), settle(0, 8), settle(1, 7), settle(1, 8))
	has(t, a, 0, 8, 7)
	has(t, a, 1, 8, 7)
}

// Of several faults the one that is named first is told.
func TestFirstOfSeveralFaults(t *testing.T) {
	for n := 2; n <= api.Members; n++ {
		a := group(t, n, 1, 2, 3)
		for who := range n {
			giveInOrder(t, a, who, 1, 1, 2)
		}
		for who := range n - 1 {
			gives(t, a, who, 3, 3)
		}
		settles(t, a, 0, 2)
		settles(t, a, n-1, 1, 1)
		// Words that were heard somewhere, wait, lack a Stamp, were not said, or are none.
		words := append(noWords(), 1, 2, 3, 4, api.MaxWords)
		for _, who := range noMembers(n) {
			for _, word := range words {
				refuses(t, a, api.ErrRange, propose(who, word), settle(who, word))
			}
		}
		for _, word := range noWords() {
			for who := range n {
				refuses(t, a, api.ErrRange, propose(who, word), settle(who, word))
			}
		}
		for who := range n {
			refuses(t, a, api.ErrNone, propose(who, 4), settle(who, 4), propose(who, api.MaxWords), settle(who, api.MaxWords))
			refuses(t, a, api.ErrState, settle(who, 3))
		}
	}
}

func TestHeardOfNoMember(t *testing.T) {
	for n := 2; n <= api.Members; n++ {
		a := group(t, n, 7)
		for range 2 {
			for _, who := range noMembers(n) {
				if got, err := a.Heard(who); got != nil || plain.Told(err) != api.ErrRange {
					t.Errorf("in a group of %d: Heard(%d) = %v, %v, want nothing, %v", n, who, got, err, api.ErrRange)
				}
			}
			has(t, a, 0)
			has(t, a, n-1)
		}
	}
}

func TestSettledAtOneAndNotAtAnother(t *testing.T) {
	a := group(t, 3, 7, 8)
	for who := range 3 {
		giveInOrder(t, a, who, 1, 7, 8)
	}
	settles(t, a, 0, 7, 7)
	has(t, a, 0, 7)
	has(t, a, 1)
	has(t, a, 2)
	refuses(t, a, api.ErrClash, settle(0, 7))
	settles(t, a, 2, 8)
	has(t, a, 2)
	settles(t, a, 1, 8)
	settles(t, a, 1, 7, 7, 8)
	has(t, a, 0, 7)
	has(t, a, 2)
	settles(t, a, 2, 7, 7, 8)
	settles(t, a, 0, 8, 8)
	for who := range 3 {
		has(t, a, who, 7, 8)
	}
}

func TestWaitsForOneAheadOfIt(t *testing.T) {
	a := group(t, 2, 1, 2, 3, 4, 5)
	giveInOrder(t, a, 0, 1, 5, 4, 3, 2, 1)
	giveInOrder(t, a, 1, 1, 5, 4, 3, 2)
	settles(t, a, 0, 4)
	settles(t, a, 0, 2)
	has(t, a, 0)
	settles(t, a, 0, 5, 5, 4)
	has(t, a, 0, 5, 4)
	settles(t, a, 0, 3, 3, 2)
	has(t, a, 0, 5, 4, 3, 2)
	gives(t, a, 1, 1, 5)
	settles(t, a, 0, 1, 1)
	has(t, a, 0, 5, 4, 3, 2, 1)
	has(t, a, 1)
}

func TestDoesNotWaitForOneBehindIt(t *testing.T) {
	a := group(t, 2, 1, 2, 3)
	giveInOrder(t, a, 0, 1, 2, 3, 1)
	giveInOrder(t, a, 1, 1, 2, 3)
	settles(t, a, 0, 2, 2)
	settles(t, a, 0, 3, 3)
	has(t, a, 0, 2, 3)
	has(t, a, 1)
}

// A word that another member did not get yet is not waited for there.
func TestDoesNotWaitForOneThatDidNotCome(t *testing.T) {
	a := group(t, 2, 1, 2)
	giveInOrder(t, a, 0, 1, 1, 2)
	gives(t, a, 1, 2, 1)
	settles(t, a, 1, 2, 2)
	settles(t, a, 0, 2)
	// It comes behind what was heard there: so 1 stands at {3 1}, behind 2 for all.
	gives(t, a, 1, 1, 3)
	settles(t, a, 1, 1, 1)
	settles(t, a, 0, 1, 2, 1)
	has(t, a, 0, 2, 1)
	has(t, a, 1, 2, 1)
}

// Settle moves a word back, from the Stamp that the member gave to the one for good.
func TestSettleMovesAWordBack(t *testing.T) {
	a := group(t, 2, 1, 2, 3, 4)
	giveInOrder(t, a, 0, 1, 1, 2, 3, 4)
	giveInOrder(t, a, 1, 1, 2, 3, 4, 1)
	// 1 stands at {4 1}, the others at {2 0}, {3 0} and {4 0}.
	settles(t, a, 0, 3)
	settles(t, a, 0, 1)
	settles(t, a, 0, 2, 2, 3)
	settles(t, a, 0, 4, 4, 1)
	// There it frees those that wait behind it.
	b := group(t, 2, 1, 2, 3, 4)
	giveInOrder(t, b, 0, 1, 1, 2, 3, 4)
	giveInOrder(t, b, 1, 1, 2, 3, 4, 1)
	settles(t, b, 0, 2)
	settles(t, b, 0, 3)
	settles(t, b, 0, 1, 2, 3)
	settles(t, b, 0, 4, 4, 1)
	for _, word := range []int{1, 4, 3} {
		settles(t, b, 1, word)
	}
	settles(t, b, 1, 2, 2, 3, 4, 1)
}

func TestAllAtOnce(t *testing.T) {
	for n := 2; n <= api.Members; n++ {
		words := backwards(rising(1, api.MaxWords))
		a := group(t, n, words...)
		for who := range n {
			giveInOrder(t, a, who, 1, words...)
		}
		for who := range n {
			for at := len(words) - 1; at > 0; at-- {
				settles(t, a, who, words[at])
				has(t, a, who)
			}
			settles(t, a, who, words[0], words...)
			has(t, a, who, words...)
		}
	}
}

func TestOneByOne(t *testing.T) {
	a := group(t, api.Members)
	for word := 1; word <= api.MaxWords; word++ {
		says(t, a, word)
		for who := range api.Members {
			gives(t, a, who, word, word)
		}
		for who := range api.Members {
			has(t, a, who, rising(1, word-1)...)
			settles(t, a, who, word, word)
			has(t, a, who, rising(1, word)...)
		}
	}
}

func TestUnlikeOrders(t *testing.T) {
	a := group(t, 3, 1, 2, 3)
	giveInOrder(t, a, 0, 1, 1, 2, 3)
	giveInOrder(t, a, 1, 1, 2, 3, 1)
	giveInOrder(t, a, 2, 1, 3, 1, 2)
	// {3 0} of 3, {3 1} of 1, {3 2} of 2.
	settles(t, a, 0, 1)
	settles(t, a, 0, 2)
	settles(t, a, 0, 3, 3, 1, 2)
	settles(t, a, 1, 2)
	settles(t, a, 1, 3, 3)
	settles(t, a, 1, 1, 1, 2)
	settles(t, a, 2, 3)
	settles(t, a, 2, 1, 3, 1)
	settles(t, a, 2, 2, 2)
	for who := range 3 {
		has(t, a, who, 3, 1, 2)
	}
}

// scrawl writes into a list, and what lies behind it in its memory.
func scrawl(l []int, with int) {
	l = l[:cap(l)]
	for at := range l {
		l[at] = with
	}
}

func TestListsAreTheCallers(t *testing.T) {
	words := rising(1, 12)
	a := group(t, 2, words...)
	giveInOrder(t, a, 0, 1, words...)
	giveInOrder(t, a, 1, 1, words...)
	var lists [][]int
	keep := func(l []int, err error) {
		if err != nil {
			t.Fatal(err)
		}
		lists = append(lists, l)
	}
	for _, word := range []int{1, 3, 2, 6, 5, 4, 7, 9, 8, 11} {
		for who := range 2 {
			keep(a.Settle(who, word))
			keep(a.Heard(who))
			keep(a.Heard(who))
		}
	}
	for i, l := range lists {
		scrawl(l, -1-i)
	}
	for i, l := range lists {
		if slices.ContainsFunc(l, func(n int) bool { return n != -1-i }) {
			t.Errorf("list %d shares memory with another one: %v", i, l)
		}
	}
	for who := range 2 {
		has(t, a, who, rising(1, 9)...)
		refuses(t, a, api.ErrClash, settle(who, 9), propose(who, 9))
		settles(t, a, who, 10, 10, 11)
		has(t, a, who, rising(1, 11)...)
	}
}

func TestAnswersStayAsTheyWere(t *testing.T) {
	words := rising(1, 6)
	a := group(t, 2, words...)
	giveInOrder(t, a, 0, 1, words...)
	giveInOrder(t, a, 1, 1, words...)
	settles(t, a, 0, 2)
	settles(t, a, 0, 3)
	none, _ := a.Heard(0)
	first, _ := a.Settle(0, 1)
	three, _ := a.Heard(0)
	settles(t, a, 0, 5)
	second, _ := a.Settle(0, 4)
	settles(t, a, 0, 6, 6)
	for _, c := range []struct{ got, want []int }{{none, nil}, {first, words[:3]}, {three, words[:3]}, {second, words[3:5]}} {
		if !slices.Equal(c.got, c.want) {
			t.Errorf("an answer became %v, want %v", c.got, c.want)
		}
	}
}

func TestEachGroupForItself(t *testing.T) {
	one, other := group(t, 2, 7, 8), group(t, 3)
	refuses(t, other, api.ErrNone, propose(0, 7), settle(0, 7))
	says(t, other, 8)
	giveInOrder(t, one, 0, 1, 7, 8)
	gives(t, other, 0, 8, 1)
	giveInOrder(t, one, 1, 1, 7, 8)
	settles(t, one, 0, 7, 7)
	refuses(t, other, api.ErrState, settle(0, 8))
	gives(t, other, 1, 8, 1)
	gives(t, other, 2, 8, 1)
	settles(t, other, 0, 8, 8)
	settles(t, one, 1, 8)
	has(t, one, 0, 7)
	has(t, one, 1)
	has(t, other, 0, 8)
	has(t, other, 1)
	says(t, other, 7)
	gives(t, other, 1, 7, 2)
	settles(t, one, 1, 7, 7, 8)
	another := group(t, 2, 7)
	gives(t, another, 0, 7, 1)
	has(t, another, 0)
}
