package leader

import (
	"math"
	"slices"
	"testing"

	"mootbell/api"
	"mootbell/plain"
)

// call is one of what a group is asked, but for Lacks and Heard: of say, number is a word, of take a
// place.
type call struct {
	what        string
	who, number int
}

func say(word int) call { return call{"say", 0, word} }

func take(who, at int) call { return call{"take", who, at} }

// told is what a call answers: what it does not answer is empty.
type told struct {
	placed api.Placed
	heard  []int
	errno  api.Errno
}

func (x told) is(y told) bool {
	return x.placed == y.placed && slices.Equal(x.heard, y.heard) && x.errno == y.errno
}

// asked lets a group do what is asked of it.
func asked(l *Leader, c call) told {
	if c.what == "say" {
		placed, err := l.Say(c.number)
		return told{placed: placed, errno: plain.Told(err)}
	}
	heard, err := l.Take(c.who, c.number)
	return told{heard: heard, errno: plain.Told(err)}
}

// group makes a new one, in which some words are said.
func group(t *testing.T, n int, words ...int) *Leader {
	t.Helper()
	l, err := New(n)
	if err != nil || l == nil {
		t.Fatalf("New(%d) = %v, %v", n, l, err)
	}
	says(t, l, 0, words...)
	return l
}

// says has words said, of which the first is given that place, and each next one the next.
func says(t *testing.T, l *Leader, at int, words ...int) {
	t.Helper()
	for i, word := range words {
		want := api.Placed{At: at + i, Word: word}
		if got, err := l.Say(word); got != want || err != nil {
			t.Fatalf("Say(%d) = %v, %v, want %v", word, got, err, want)
		}
	}
}

// takes has what is at a place come to a member, by which it hears some.
func takes(t *testing.T, l *Leader, who, at int, heard ...int) {
	t.Helper()
	if got, err := l.Take(who, at); !slices.Equal(got, heard) || err != nil {
		t.Fatalf("Take(%d, %d) = %v, %v, want %v", who, at, got, err, heard)
	}
}

// lacks holds the places that a member lacks against what is asked for.
func lacks(t *testing.T, l *Leader, who int, want ...int) {
	t.Helper()
	if got, err := l.Lacks(who); !slices.Equal(got, want) || err != nil {
		t.Fatalf("Lacks(%d) = %v, %v, want %v", who, got, err, want)
	}
}

// has holds all that a member heard against what is asked for.
func has(t *testing.T, l *Leader, who int, want ...int) {
	t.Helper()
	if got, err := l.Heard(who); !slices.Equal(got, want) || err != nil {
		t.Fatalf("Heard(%d) = %v, %v, want %v", who, got, err, want)
	}
}

// looks at what each member lacks, and what it heard.
func looks(t *testing.T, l *Leader) [][]int {
	t.Helper()
	var all [][]int
	for who := range l.n {
		lack, err := l.Lacks(who)
		if err != nil {
			t.Fatalf("Lacks(%d) told %v", who, err)
		}
		heard, err := l.Heard(who)
		if err != nil {
			t.Fatalf("Heard(%d) told %v", who, err)
		}
		all = append(all, lack, heard)
	}
	return all
}

// refuses asks for what is told to be wrong, nothing for what has come: by neither is anything
// answered, nor does anything change that can be looked at.
func refuses(t *testing.T, l *Leader, want api.Errno, calls ...call) {
	t.Helper()
	for _, c := range calls {
		ahead := looks(t, l)
		got := asked(l, c)
		if got.errno != want || got.heard != nil || got.placed != (api.Placed{}) {
			t.Fatalf("%v = %v, want nothing, %v", c, got, want)
		}
		if behind := looks(t, l); !slices.EqualFunc(ahead, behind, slices.Equal) {
			t.Fatalf("%v changed what lacks and was heard from %v to %v", c, ahead, behind)
		}
	}
}

func nothing(t *testing.T, l *Leader, who, at int) {
	t.Helper()
	refuses(t, l, api.OK, take(who, at))
}

// noGroups are numbers of members that no group has.
func noGroups() []int {
	return []int{math.MinInt, math.MinInt32, -api.Members, -2, -1, 0, 1, api.Members + 1, api.Members + 2, api.MaxWords, api.MaxCount, math.MaxInt32, math.MaxInt}
}

// noWords are numbers that no word is.
func noWords() []int {
	return []int{math.MinInt, math.MinInt32, -api.MaxWords, -1, 0, api.MaxWords + 1, api.MaxWords + 2, api.MaxCount, math.MaxInt32, math.MaxInt}
}

// noMembers are numbers that no member of a group of n is.
func noMembers(n int) []int {
	return []int{math.MinInt, math.MinInt32, -n, -2, -1, n, n + 1, api.Members, api.Members + 1, api.MaxCount, math.MaxInt32, math.MaxInt}
}

// noPlaces are numbers that no place is where so many were given.
func noPlaces(given int) []int {
	return []int{math.MinInt, math.MinInt32, -given - 1, -given, -2, -1, given, given + 1, api.MaxWords, api.MaxWords + 1, api.MaxCount, math.MaxInt32, math.MaxInt}
}

// rising is the numbers from one to another one.
func rising(from, to int) []int {
	var l []int
	for n := from; n <= to; n++ {
		l = append(l, n)
	}
	return l
}

// backwards is a list the other way round.
func backwards(l []int) []int {
	l = slices.Clone(l)
	slices.Reverse(l)
	return l
}

func TestGroupsOfAllSizes(t *testing.T) {
	for n := 2; n <= api.Members; n++ {
		l := group(t, n)
		for who := range n {
			lacks(t, l, who)
			has(t, l, who)
		}
		says(t, l, 0, 7)
		for who := range n {
			lacks(t, l, who, 0)
			has(t, l, who)
			takes(t, l, who, 0, 7)
			lacks(t, l, who)
			has(t, l, who, 7)
		}
		for _, who := range noMembers(n) {
			refuses(t, l, api.ErrRange, take(who, 0))
		}
	}
}

func TestNoGroup(t *testing.T) {
	for _, n := range noGroups() {
		if l, err := New(n); l != nil || plain.Told(err) != api.ErrRange {
			t.Errorf("New(%d) = %v, %v, want nothing, %v", n, l, err, api.ErrRange)
		}
	}
}

func TestPlacesCountFromZero(t *testing.T) {
	words := rising(1, api.MaxWords)
	for n := 2; n <= api.Members; n++ {
		for _, order := range [][]int{words, backwards(words), append(rising(15, api.MaxWords), rising(1, 14)...)} {
			l := group(t, n)
			for at, word := range order {
				refuses(t, l, api.ErrNone, take(0, at), take(n-1, at))
				says(t, l, at, word)
				refuses(t, l, api.ErrClash, say(word), say(order[0]))
				lacks(t, l, 0, rising(0, at)...)
				lacks(t, l, n-1, rising(0, at)...)
			}
			for _, word := range words {
				refuses(t, l, api.ErrClash, say(word))
			}
			for _, word := range noWords() {
				refuses(t, l, api.ErrRange, say(word))
			}
			for _, at := range noPlaces(api.MaxWords) {
				refuses(t, l, api.ErrNone, take(0, at), take(n-1, at))
			}
		}
	}
}

// The first word and the last one, at any place.
func TestLeastAndGreatestWord(t *testing.T) {
	l := group(t, 2, 1, api.MaxWords)
	takes(t, l, 0, 0, 1)
	takes(t, l, 0, 1, api.MaxWords)
	takes(t, l, 1, 1)
	takes(t, l, 1, 0, 1, api.MaxWords)
	l = group(t, api.Members, api.MaxWords, 1)
	takes(t, l, 4, 0, api.MaxWords)
	takes(t, l, 4, 1, 1)
	has(t, l, 4, api.MaxWords, 1)
	has(t, l, 0)
}

func TestSayOnceMoreWhateverBecameOfIt(t *testing.T) {
	l := group(t, 2, 7, 8)
	refuses(t, l, api.ErrClash, say(7), say(8), say(8))
	takes(t, l, 0, 1)
	refuses(t, l, api.ErrClash, say(7), say(8))
	takes(t, l, 0, 0, 7, 8)
	refuses(t, l, api.ErrClash, say(7), say(8))
	takes(t, l, 1, 0, 7)
	takes(t, l, 1, 1, 8)
	refuses(t, l, api.ErrClash, say(7), say(8))
	says(t, l, 2, 9)
}

func TestSayNoWord(t *testing.T) {
	l := group(t, 5)
	for at, word := range []int{1, api.MaxWords, 17} {
		// Told the same once more: what is no word was not said.
		for range 2 {
			for _, no := range noWords() {
				refuses(t, l, api.ErrRange, say(no))
			}
		}
		says(t, l, at, word)
	}
}

func TestInOrder(t *testing.T) {
	words := backwards(rising(1, api.MaxWords))
	for n := 2; n <= api.Members; n++ {
		l := group(t, n, words...)
		for at, word := range words {
			for _, who := range backwards(rising(0, n-1)) {
				takes(t, l, who, at, word)
				lacks(t, l, who, rising(at+1, api.MaxWords-1)...)
				has(t, l, who, words[:at+1]...)
			}
		}
	}
}

func TestTheWrongWayRound(t *testing.T) {
	words := append(rising(11, api.MaxWords), rising(1, 10)...)
	for n := 2; n <= api.Members; n++ {
		l := group(t, n, words...)
		for at := api.MaxWords - 1; at > 0; at-- {
			for who := range n {
				takes(t, l, who, at)
				lacks(t, l, who, rising(0, at-1)...)
				has(t, l, who)
			}
		}
		for who := range n {
			takes(t, l, who, 0, words...)
			lacks(t, l, who)
			has(t, l, who, words...)
		}
	}
}

// Each order in which four places come to a member.
func TestAnyOrderOfFour(t *testing.T) {
	words := []int{9, 30, 1, 4}
	for _, c := range []struct {
		order []int
		heard [4][]int
	}{
		{[]int{0, 1, 2, 3}, [4][]int{{9}, {30}, {1}, {4}}},
		{[]int{0, 1, 3, 2}, [4][]int{{9}, {30}, {}, {1, 4}}},
		{[]int{0, 2, 1, 3}, [4][]int{{9}, {}, {30, 1}, {4}}},
		{[]int{0, 2, 3, 1}, [4][]int{{9}, {}, {}, {30, 1, 4}}},
		{[]int{0, 3, 1, 2}, [4][]int{{9}, {}, {30}, {1, 4}}},
		{[]int{0, 3, 2, 1}, [4][]int{{9}, {}, {}, {30, 1, 4}}},
		{[]int{1, 0, 2, 3}, [4][]int{{}, {9, 30}, {1}, {4}}},
		{[]int{1, 0, 3, 2}, [4][]int{{}, {9, 30}, {}, {1, 4}}},
		{[]int{1, 2, 0, 3}, [4][]int{{}, {}, {9, 30, 1}, {4}}},
		{[]int{1, 2, 3, 0}, [4][]int{{}, {}, {}, {9, 30, 1, 4}}},
		{[]int{1, 3, 0, 2}, [4][]int{{}, {}, {9, 30}, {1, 4}}},
		{[]int{1, 3, 2, 0}, [4][]int{{}, {}, {}, {9, 30, 1, 4}}},
		{[]int{2, 0, 1, 3}, [4][]int{{}, {9}, {30, 1}, {4}}},
		{[]int{2, 0, 3, 1}, [4][]int{{}, {9}, {}, {30, 1, 4}}},
		{[]int{2, 1, 0, 3}, [4][]int{{}, {}, {9, 30, 1}, {4}}},
		{[]int{2, 1, 3, 0}, [4][]int{{}, {}, {}, {9, 30, 1, 4}}},
		{[]int{2, 3, 0, 1}, [4][]int{{}, {}, {9}, {30, 1, 4}}},
		{[]int{2, 3, 1, 0}, [4][]int{{}, {}, {}, {9, 30, 1, 4}}},
		{[]int{3, 0, 1, 2}, [4][]int{{}, {9}, {30}, {1, 4}}},
		{[]int{3, 0, 2, 1}, [4][]int{{}, {9}, {}, {30, 1, 4}}},
		{[]int{3, 1, 0, 2}, [4][]int{{}, {}, {9, 30}, {1, 4}}},
		{[]int{3, 1, 2, 0}, [4][]int{{}, {}, {}, {9, 30, 1, 4}}},
		{[]int{3, 2, 0, 1}, [4][]int{{}, {}, {9}, {30, 1, 4}}},
		{[]int{3, 2, 1, 0}, [4][]int{{}, {}, {}, {9, 30, 1, 4}}},
	} {
		for who := range 3 {
			l := group(t, 3, words...)
			var all []int
			for i, at := range c.order {
				takes(t, l, who, at, c.heard[i]...)
				all = append(all, c.heard[i]...)
				has(t, l, who, all...)
				lacks(t, l, who, slices.Sorted(slices.Values(c.order[i+1:]))...)
			}
		}
	}
}

func TestComeAlready(t *testing.T) {
	l := group(t, 2, 7, 8, 9)
	takes(t, l, 0, 2)
	nothing(t, l, 0, 2)
	nothing(t, l, 0, 2)
	takes(t, l, 0, 0, 7)
	nothing(t, l, 0, 0)
	nothing(t, l, 0, 2)
	takes(t, l, 0, 1, 8, 9)
	for range 2 {
		for at := range 3 {
			nothing(t, l, 0, at)
		}
	}
	// To the other member none of these has come.
	lacks(t, l, 1, 0, 1, 2)
	takes(t, l, 1, 0, 7)
	nothing(t, l, 1, 0)
	takes(t, l, 1, 1, 8)
	takes(t, l, 1, 2, 9)
	has(t, l, 0, 7, 8, 9)
	has(t, l, 1, 7, 8, 9)
}

func TestNoSuchPlace(t *testing.T) {
	for n := 2; n <= api.Members; n++ {
		l := group(t, n)
		for given := range 4 {
			for _, at := range noPlaces(given) {
				for who := range n {
					refuses(t, l, api.ErrNone, take(who, at), take(who, at))
				}
			}
			says(t, l, given, 30-given)
			if given == 1 {
				takes(t, l, 0, 1)
				takes(t, l, n-1, 0, 30)
			}
		}
		// None of those came ahead of its word.
		lacks(t, l, 0, 0, 2, 3)
		lacks(t, l, n-1, 1, 2, 3)
		takes(t, l, 0, 0, 30, 29)
		takes(t, l, 0, 2, 28)
		takes(t, l, 0, 3, 27)
	}
}

func TestLastPlaceAndTheOneBehindIt(t *testing.T) {
	l := group(t, 3)
	for at, word := range backwards(rising(1, api.MaxWords)) {
		says(t, l, at, word)
		refuses(t, l, api.ErrNone, take(0, at+1), take(2, at+1))
		takes(t, l, 0, at, word)
		refuses(t, l, api.ErrNone, take(0, at+1), take(2, at+1))
		lacks(t, l, 0)
		lacks(t, l, 2, rising(0, at)...)
	}
}

// Of several faults the one that is named first is told.
func TestFirstOfSeveralFaults(t *testing.T) {
	for n := 2; n <= api.Members; n++ {
		l := group(t, n)
		for _, who := range noMembers(n) {
			for _, at := range noPlaces(0) {
				refuses(t, l, api.ErrRange, take(who, at))
			}
		}
		says(t, l, 0, 7, 8, 9)
		takes(t, l, 0, 0, 7)
		takes(t, l, n-1, 2)
		for _, who := range noMembers(n) {
			for _, at := range append(noPlaces(3), 0, 1, 2) {
				refuses(t, l, api.ErrRange, take(who, at))
			}
		}
	}
}

func TestLacksAndHeardOfNoMember(t *testing.T) {
	for n := 2; n <= api.Members; n++ {
		l := group(t, n)
		for given := range 4 {
			for _, who := range noMembers(n) {
				if got, err := l.Lacks(who); got != nil || plain.Told(err) != api.ErrRange {
					t.Errorf("in a group of %d: Lacks(%d) = %v, %v, want nothing, %v", n, who, got, err, api.ErrRange)
				}
				if got, err := l.Heard(who); got != nil || plain.Told(err) != api.ErrRange {
					t.Errorf("in a group of %d: Heard(%d) = %v, %v, want nothing, %v", n, who, got, err, api.ErrRange)
				}
			}
			has(t, l, 0)
			has(t, l, n-1, rising(1, given)...)
			says(t, l, given, given+1)
			takes(t, l, n-1, given, given+1)
		}
	}
}

// Nothing was said, all lack, none lacks, the last one lacks alone; and the same once more behind
// each of these.
func TestLacksAndHeardBehindEach(t *testing.T) {
	l := group(t, 2)
	for range 2 {
		lacks(t, l, 1)
		has(t, l, 1)
	}
	says(t, l, 0, 5, 4)
	lacks(t, l, 1, 0, 1)
	has(t, l, 1)
	takes(t, l, 1, 1)
	lacks(t, l, 1, 0)
	has(t, l, 1)
	takes(t, l, 1, 0, 5, 4)
	lacks(t, l, 1)
	has(t, l, 1, 5, 4)
	says(t, l, 2, 3)
	lacks(t, l, 1, 2)
	has(t, l, 1, 5, 4)
	takes(t, l, 1, 2, 3)
	lacks(t, l, 1)
	has(t, l, 1, 5, 4, 3)
	says(t, l, 3, 2, 1, 6)
	lacks(t, l, 1, 3, 4, 5)
	takes(t, l, 1, 4)
	lacks(t, l, 1, 3, 5)
	takes(t, l, 1, 3, 2, 1)
	// The last one alone.
	lacks(t, l, 1, 5)
	has(t, l, 1, 5, 4, 3, 2, 1)
	takes(t, l, 1, 5, 6)
	lacks(t, l, 1)
	has(t, l, 1, 5, 4, 3, 2, 1, 6)
	lacks(t, l, 0, 0, 1, 2, 3, 4, 5)
	has(t, l, 0)
}

// The last one has come, those ahead of it have not.
func TestLacksAheadOfTheLast(t *testing.T) {
	l := group(t, 2, 3, 1, 2)
	takes(t, l, 0, 2)
	lacks(t, l, 0, 0, 1)
	takes(t, l, 0, 0, 3)
	lacks(t, l, 0, 1)
	says(t, l, 3, 4)
	lacks(t, l, 0, 1, 3)
	takes(t, l, 0, 3)
	lacks(t, l, 0, 1)
	takes(t, l, 0, 1, 1, 2, 4)
	lacks(t, l, 0)
}

func TestSaidBehindSomeThatHaveCome(t *testing.T) {
	l := group(t, 3, 20, 10)
	takes(t, l, 0, 0, 20)
	takes(t, l, 1, 1)
	takes(t, l, 2, 1)
	takes(t, l, 2, 0, 20, 10)
	says(t, l, 2, 30)
	lacks(t, l, 0, 1, 2)
	lacks(t, l, 1, 0, 2)
	lacks(t, l, 2, 2)
	has(t, l, 0, 20)
	has(t, l, 1)
	has(t, l, 2, 20, 10)
	takes(t, l, 0, 2)
	takes(t, l, 0, 1, 10, 30)
	takes(t, l, 1, 0, 20, 10)
	takes(t, l, 1, 2, 30)
	takes(t, l, 2, 2, 30)
	for who := range 3 {
		lacks(t, l, who)
		has(t, l, who, 20, 10, 30)
	}
}

func TestDifferentPlacesToEach(t *testing.T) {
	l := group(t, api.Members, 6, 5, 4, 3, 2)
	for who := range api.Members {
		if who == 0 {
			takes(t, l, who, 0, 6)
			continue
		}
		takes(t, l, who, who)
	}
	lacks(t, l, 0, 1, 2, 3, 4)
	lacks(t, l, 1, 0, 2, 3, 4)
	lacks(t, l, 2, 0, 1, 3, 4)
	lacks(t, l, 3, 0, 1, 2, 4)
	lacks(t, l, 4, 0, 1, 2, 3)
	has(t, l, 0, 6)
	for who := 1; who < api.Members; who++ {
		has(t, l, who)
	}
	takes(t, l, 1, 0, 6, 5)
	takes(t, l, 3, 0, 6)
	takes(t, l, 3, 2)
	takes(t, l, 3, 1, 5, 4, 3)
	has(t, l, 0, 6)
	has(t, l, 1, 6, 5)
	has(t, l, 2)
	has(t, l, 3, 6, 5, 4, 3)
	has(t, l, 4)
	lacks(t, l, 3, 4)
}

// What was heard is not kept with what waits, also where it comes once more.
func TestWhatWasHeardWaitsNoMore(t *testing.T) {
	l := group(t, 2, 4, 3, 2, 1)
	waits := func(who, want int) {
		t.Helper()
		if got := len(l.waits[who]); got != want {
			t.Fatalf("%d wait at member %d, want %d", got, who, want)
		}
	}
	takes(t, l, 0, 2)
	takes(t, l, 0, 1)
	waits(0, 2)
	nothing(t, l, 0, 1)
	waits(0, 2)
	takes(t, l, 0, 0, 4, 3, 2)
	waits(0, 0)
	for at := range 3 {
		nothing(t, l, 0, at)
		waits(0, 0)
	}
	takes(t, l, 0, 3, 1)
	waits(0, 0)
	waits(1, 0)
}

// scrawl writes into a list, and what lies behind it in its memory.
func scrawl(l []int, with int) {
	l = l[:cap(l)]
	for at := range l {
		l[at] = with
	}
}

func TestListsAreTheCallers(t *testing.T) {
	words := backwards(rising(1, 12))
	l := group(t, 2, words...)
	var lists [][]int
	keep := func(list []int, err error) {
		if err != nil {
			t.Fatal(err)
		}
		lists = append(lists, list)
	}
	for _, at := range []int{0, 2, 1, 5, 4, 3, 6, 8, 7, 10} {
		for who := range 2 {
			keep(l.Take(who, at))
			for range 2 {
				keep(l.Lacks(who))
				keep(l.Heard(who))
			}
		}
	}
	for i, list := range lists {
		scrawl(list, -1-i)
	}
	for i, list := range lists {
		if slices.ContainsFunc(list, func(n int) bool { return n != -1-i }) {
			t.Errorf("list %d shares memory with another one: %v", i, list)
		}
	}
	for who := range 2 {
		lacks(t, l, who, 9, 11)
		has(t, l, who, words[:9]...)
		nothing(t, l, who, 8)
		nothing(t, l, who, 10)
		takes(t, l, who, 9, words[9:11]...)
		has(t, l, who, words[:11]...)
		lacks(t, l, who, 11)
	}
}

func TestAnswersStayAsTheyWere(t *testing.T) {
	l := group(t, 2, 1, 2, 3, 4, 5)
	takes(t, l, 0, 1)
	takes(t, l, 0, 2)
	none, _ := l.Heard(0)
	three, _ := l.Lacks(0)
	first, _ := l.Take(0, 0)
	two, _ := l.Lacks(0)
	heard, _ := l.Heard(0)
	takes(t, l, 0, 4)
	second, _ := l.Take(0, 3)
	placed, _ := l.Say(6)
	takes(t, l, 0, 5, 6)
	for _, c := range []struct{ got, want []int }{
		{none, nil}, {three, []int{0, 3, 4}}, {first, []int{1, 2, 3}}, {two, []int{3, 4}},
		{heard, []int{1, 2, 3}}, {second, []int{4, 5}}, {[]int{placed.At, placed.Word}, []int{5, 6}},
	} {
		if !slices.Equal(c.got, c.want) {
			t.Errorf("an answer became %v, want %v", c.got, c.want)
		}
	}
}

func TestEachGroupForItself(t *testing.T) {
	one, other := group(t, 2, 7, 8), group(t, 3)
	refuses(t, other, api.ErrNone, take(0, 0), take(1, 1))
	lacks(t, other, 0)
	says(t, other, 0, 8)
	takes(t, one, 0, 1)
	takes(t, other, 0, 0, 8)
	takes(t, one, 0, 0, 7, 8)
	lacks(t, other, 1, 0)
	has(t, other, 1)
	has(t, other, 0, 8)
	lacks(t, one, 1, 0, 1)
	has(t, one, 1)
	says(t, other, 1, 7, 9)
	refuses(t, one, api.ErrNone, take(0, 2), take(1, 2))
	says(t, one, 2, 9)
	takes(t, one, 0, 2, 9)
	lacks(t, other, 0, 1, 2)
	another := group(t, 2)
	lacks(t, another, 0)
	has(t, another, 0)
	says(t, another, 0, 7)
	has(t, one, 0, 7, 8, 9)
}
