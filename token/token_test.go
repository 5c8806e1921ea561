package token

import (
	"math"
	"slices"
	"testing"

	"mootbell/api"
	"mootbell/plain"
)

// call is one of what a token is asked, but for Holder and Waits: of pass, who and word are nothing.
type call struct {
	what      string
	who, word int
}

func say(who, word int) call { return call{"say", who, word} }

func pass() call { return call{what: "pass"} }

// told is what a call answers: what it does not answer is empty.
type told struct {
	placed []api.Placed
	errno  api.Errno
}

func (x told) is(y told) bool { return slices.Equal(x.placed, y.placed) && x.errno == y.errno }

// asked lets a token do what is asked of it.
func asked(k *Token, c call) told {
	if c.what == "say" {
		return told{errno: plain.Told(k.Say(c.who, c.word))}
	}
	return told{placed: k.Pass()}
}

// group makes a new token of so many, who may say so many words at a turn.
func group(t *testing.T, n, most int) *Token {
	t.Helper()
	k, err := New(n, most)
	if err != nil || k == nil {
		t.Fatalf("New(%d, %d) = %v, %v", n, most, k, err)
	}
	return k
}

// says has words wait with a member.
func says(t *testing.T, k *Token, who int, words ...int) {
	t.Helper()
	for _, word := range words {
		if err := k.Say(who, word); err != nil {
			t.Fatalf("Say(%d, %d) told %v", who, word, err)
		}
	}
}

// passes has the token go on, by which words get places: the first of them that one, each next one
// the next.
func passes(t *testing.T, k *Token, at int, words ...int) {
	t.Helper()
	var want []api.Placed
	for i, word := range words {
		want = append(want, api.Placed{At: at + i, Word: word})
	}
	if got := k.Pass(); !slices.Equal(got, want) {
		t.Fatalf("Pass() = %v, want %v", got, want)
	}
}

// holds asks who has the token.
func holds(t *testing.T, k *Token, want int) {
	t.Helper()
	if got := k.Holder(); got != want {
		t.Fatalf("Holder() = %d, want %d", got, want)
	}
}

// waits asks which words wait with a member.
func waits(t *testing.T, k *Token, who int, want ...int) {
	t.Helper()
	if got, err := k.Waits(who); !slices.Equal(got, want) || err != nil {
		t.Fatalf("Waits(%d) = %v, %v, want %v", who, got, err, want)
	}
}

// noneWaits asks it of all members.
func noneWaits(t *testing.T, k *Token) {
	t.Helper()
	for who := range k.n {
		waits(t, k, who)
	}
}

// looks at what waits with each, and behind all at who has the token.
func looks(t *testing.T, k *Token) [][]int {
	t.Helper()
	var all [][]int
	for who := range k.n {
		words, err := k.Waits(who)
		if err != nil {
			t.Fatalf("Waits(%d) told %v", who, err)
		}
		all = append(all, words)
	}
	return append(all, []int{k.Holder()})
}

// refuses has words said of which it is told what is wrong: nothing changes that can be looked at.
func refuses(t *testing.T, k *Token, want api.Errno, calls ...call) {
	t.Helper()
	for _, c := range calls {
		ahead := looks(t, k)
		if got := asked(k, c); !got.is(told{errno: want}) {
			t.Fatalf("%v = %v, want %v", c, got, want)
		}
		if behind := looks(t, k); !slices.EqualFunc(ahead, behind, slices.Equal) {
			t.Fatalf("%v changed what waits, and who has the token, from %v to %v", c, ahead, behind)
		}
	}
}

// noGroups are numbers of members that no group has.
func noGroups() []int {
	return []int{math.MinInt, math.MinInt32, -api.Members, -2, -1, 0, 1, api.Members + 1, api.Members + 2, 10, api.MaxWords, api.MaxCount, math.MaxInt32, math.MaxInt}
}

// noMosts are numbers of words that nobody may say at a turn.
func noMosts() []int {
	return []int{math.MinInt, math.MinInt32, -10, -2, -1, 0, 11, 12, api.MaxWords, api.MaxCount, math.MaxInt32, math.MaxInt}
}

// noWords are numbers that no word is.
func noWords() []int {
	return []int{math.MinInt, math.MinInt32, -api.MaxWords, -1, 0, api.MaxWords + 1, api.MaxWords + 2, api.MaxCount, math.MaxInt32, math.MaxInt}
}

// noMembers are numbers that no member of a group of n is.
func noMembers(n int) []int {
	return []int{math.MinInt, math.MinInt32, -n, -2, -1, n, n + 1, api.Members, api.Members + 1, api.MaxCount, math.MaxInt32, math.MaxInt}
}

// rising is the numbers from one to another one.
func rising(from, to int) []int {
	var l []int
	for n := from; n <= to; n++ {
		l = append(l, n)
	}
	return l
}

// backwards is a list the other way round.
func backwards(l []int) []int {
	l = slices.Clone(l)
	slices.Reverse(l)
	return l
}

func TestGroupsOfAllSizes(t *testing.T) {
	for n := 2; n <= api.Members; n++ {
		for most := 1; most <= 10; most++ {
			k := group(t, n, most)
			noneWaits(t, k)
			holds(t, k, 0)
			says(t, k, 0, 7)
			says(t, k, n-1, 8)
			waits(t, k, 0, 7)
			waits(t, k, n-1, 8)
			passes(t, k, 0, 7)
			for who := 1; who < n-1; who++ {
				holds(t, k, who)
				passes(t, k, 0)
			}
			holds(t, k, n-1)
			passes(t, k, 1, 8)
			holds(t, k, 0)
			noneWaits(t, k)
			for _, who := range noMembers(n) {
				refuses(t, k, api.ErrRange, say(who, 9))
			}
		}
	}
}

func TestNoGroup(t *testing.T) {
	refused := func(n, most int) {
		t.Helper()
		if k, err := New(n, most); k != nil || plain.Told(err) != api.ErrRange {
			t.Errorf("New(%d, %d) = %v, %v, want nothing, %v", n, most, k, err, api.ErrRange)
		}
	}
	for _, n := range noGroups() {
		for most := 1; most <= 10; most++ {
			refused(n, most)
		}
		for _, most := range noMosts() {
			refused(n, most)
		}
	}
	for n := 2; n <= api.Members; n++ {
		for _, most := range noMosts() {
			refused(n, most)
		}
	}
}

// Nobody has anything to say: the token goes around all the same.
func TestTheTokenGoesAround(t *testing.T) {
	for n := 2; n <= api.Members; n++ {
		k := group(t, n, 1)
		for turn := range 7 * n {
			holds(t, k, turn%n)
			holds(t, k, turn%n)
			passes(t, k, 0)
		}
		holds(t, k, 0)
		// What is first given a place is given the first, however often the token went around.
		says(t, k, 0, 1)
		passes(t, k, 0, 1)
		holds(t, k, 1)
	}
}

// Somebody has words, and always more than may be said at a turn: the token goes on all the same.
func TestTheTokenDoesNotStay(t *testing.T) {
	for n := 2; n <= api.Members; n++ {
		k := group(t, n, 1)
		for who := range n {
			says(t, k, who, rising(6*who+1, 6*who+6)...)
		}
		at := 0
		for round := range 6 {
			for who := range n {
				holds(t, k, who)
				waits(t, k, who, rising(6*who+round+1, 6*who+6)...)
				passes(t, k, at, 6*who+round+1)
				waits(t, k, who, rising(6*who+round+2, 6*who+6)...)
				at++
			}
		}
		holds(t, k, 0)
		noneWaits(t, k)
	}
}

// Fewer than may be said at a turn, just as many, one more, and many more, with the first member and
// the last.
func TestAtMostAsManyAsMost(t *testing.T) {
	for n := 2; n <= api.Members; n++ {
		for most := 1; most <= 10; most++ {
			for _, many := range []int{0, 1, most - 1, most, most + 1, 2*most - 1, 2 * most, 2*most + 1, api.MaxWords} {
				for _, who := range []int{0, n - 1} {
					words := backwards(rising(1, many))
					k := group(t, n, most)
					says(t, k, who, words...)
					for at := 0; at < many; at += most {
						toHolder(t, k, who)
						end := min(at+most, many)
						waits(t, k, who, words[at:]...)
						passes(t, k, at, words[at:end]...)
						waits(t, k, who, words[end:]...)
						holds(t, k, (who+1)%n)
					}
					toHolder(t, k, who)
					passes(t, k, 0)
				}
			}
		}
	}
}

// toHolder has the token go on, through others with whom nothing waits, to a member.
func toHolder(t *testing.T, k *Token, who int) {
	t.Helper()
	for range k.n {
		if k.Holder() == who {
			return
		}
		passes(t, k, 0)
	}
	holds(t, k, who)
}

func TestAllWordsByOne(t *testing.T) {
	for _, words := range [][]int{
		rising(1, api.MaxWords),
		backwards(rising(1, api.MaxWords)),
		append(rising(15, api.MaxWords), rising(1, 14)...),
	} {
		k := group(t, 3, 10)
		for i, word := range words {
			says(t, k, 1, word)
			waits(t, k, 1, words[:i+1]...)
			refuses(t, k, api.ErrClash, say(1, word), say(0, word), say(2, words[0]))
		}
		passes(t, k, 0)
		for at := 0; at < api.MaxWords; at += 10 {
			passes(t, k, at, words[at:at+10]...)
			waits(t, k, 1, words[at+10:]...)
			waits(t, k, 0)
			waits(t, k, 2)
			passes(t, k, 0)
			passes(t, k, 0)
		}
		noneWaits(t, k)
		for _, word := range words {
			refuses(t, k, api.ErrClash, say(0, word), say(1, word), say(2, word))
		}
		for range 6 {
			passes(t, k, 0)
		}
	}
}

// Each says as many, one word of each by turns.
func TestAllWordsBySeveral(t *testing.T) {
	for n := 2; n <= api.Members; n++ {
		for most := 1; most <= 10; most++ {
			k := group(t, n, most)
			each := make([][]int, n)
			for i, word := range backwards(rising(1, api.MaxWords)) {
				says(t, k, i%n, word)
				each[i%n] = append(each[i%n], word)
				waits(t, k, i%n, each[i%n]...)
			}
			for at := 0; at < api.MaxWords; {
				who := k.Holder()
				many := min(most, len(each[who]))
				passes(t, k, at, each[who][:many]...)
				at, each[who] = at+many, each[who][many:]
				for other := range n {
					waits(t, k, other, each[other]...)
				}
			}
			for word := 1; word <= api.MaxWords; word++ {
				refuses(t, k, api.ErrClash, say(0, word), say(n-1, word))
			}
		}
	}
}

func TestLeastAndGreatestWord(t *testing.T) {
	k := group(t, 2, 1)
	says(t, k, 0, 1, api.MaxWords)
	waits(t, k, 0, 1, api.MaxWords)
	passes(t, k, 0, 1)
	waits(t, k, 0, api.MaxWords)
	passes(t, k, 1)
	passes(t, k, 1, api.MaxWords)
	k = group(t, api.Members, 10)
	says(t, k, 4, api.MaxWords, 1)
	toHolder(t, k, 4)
	passes(t, k, 0, api.MaxWords, 1)
	noneWaits(t, k)
}

// The places go on across members and rounds, also where somebody between had nothing to say.
func TestPlacesGoOn(t *testing.T) {
	k := group(t, 4, 2)
	says(t, k, 3, 30, 29, 28)
	says(t, k, 0, 5)
	says(t, k, 2, 9, 8, 7, 6)
	passes(t, k, 0, 5)
	passes(t, k, 1)
	passes(t, k, 1, 9, 8)
	passes(t, k, 3, 30, 29)
	holds(t, k, 0)
	waits(t, k, 0)
	waits(t, k, 1)
	waits(t, k, 2, 7, 6)
	waits(t, k, 3, 28)
	passes(t, k, 5)
	says(t, k, 1, 10)
	passes(t, k, 5, 10)
	passes(t, k, 6, 7, 6)
	passes(t, k, 8, 28)
	noneWaits(t, k)
	for range 9 {
		passes(t, k, 9)
	}
	holds(t, k, 1)
	says(t, k, 0, 1, 2, 3)
	says(t, k, 1, 4)
	passes(t, k, 9, 4)
	passes(t, k, 10)
	passes(t, k, 10)
	passes(t, k, 10, 1, 2)
	waits(t, k, 0, 3)
	for range 3 {
		passes(t, k, 12)
	}
	passes(t, k, 12, 3)
}

// Said by who has the token, by who had it just now, and by who has it next.
func TestWhoSaysItWhen(t *testing.T) {
	for n := 2; n <= api.Members; n++ {
		for turns := range 2 * n {
			start := func() *Token {
				k := group(t, n, 3)
				for range turns {
					passes(t, k, 0)
				}
				return k
			}
			who := turns % n
			next, last := (who+1)%n, (who+n-1)%n

			k := start()
			says(t, k, who, 7, 3)
			waits(t, k, who, 7, 3)
			passes(t, k, 0, 7, 3)
			waits(t, k, who)

			k = start()
			says(t, k, next, 7, 3)
			passes(t, k, 0)
			waits(t, k, next, 7, 3)
			passes(t, k, 0, 7, 3)
			waits(t, k, next)

			k = start()
			says(t, k, last, 7, 3)
			for range n - 1 {
				passes(t, k, 0)
				waits(t, k, last, 7, 3)
			}
			holds(t, k, last)
			passes(t, k, 0, 7, 3)
			waits(t, k, last)
		}
	}
}

func TestSaidBehindSomeThatGotPlaces(t *testing.T) {
	k := group(t, 2, 2)
	says(t, k, 0, 20, 10, 15)
	passes(t, k, 0, 20, 10)
	says(t, k, 0, 1)
	waits(t, k, 0, 15, 1)
	says(t, k, 1, 30)
	passes(t, k, 2, 30)
	waits(t, k, 1)
	says(t, k, 1, 29)
	waits(t, k, 1, 29)
	says(t, k, 0, 2)
	waits(t, k, 0, 15, 1, 2)
	passes(t, k, 3, 15, 1)
	waits(t, k, 0, 2)
	says(t, k, 0, 3, 4)
	waits(t, k, 0, 2, 3, 4)
	passes(t, k, 5, 29)
	passes(t, k, 6, 2, 3)
	waits(t, k, 0, 4)
	passes(t, k, 8)
	passes(t, k, 8, 4)
	noneWaits(t, k)
	says(t, k, 1, 5)
	waits(t, k, 0)
	waits(t, k, 1, 5)
	passes(t, k, 9, 5)
}

// By the same member and by another one, while it waits, when it has its place, and long behind that.
func TestSaidTwice(t *testing.T) {
	for n := 2; n <= api.Members; n++ {
		k := group(t, n, 1)
		says(t, k, 1, 7, 8)
		twice := func() {
			t.Helper()
			for who := range n {
				refuses(t, k, api.ErrClash, say(who, 7), say(who, 8), say(who, 7))
			}
		}
		twice()
		passes(t, k, 0)
		twice()
		passes(t, k, 0, 7)
		twice()
		waits(t, k, 1, 8)
		toHolder(t, k, 1)
		passes(t, k, 1, 8)
		for range 2 * n {
			twice()
			passes(t, k, 2)
		}
		noneWaits(t, k)
		says(t, k, 0, 9)
		toHolder(t, k, 0)
		passes(t, k, 2, 9)
	}
}

// Told the same once more, and of none anything comes: what is no word was not said.
func TestSayNoWord(t *testing.T) {
	for n := 2; n <= api.Members; n++ {
		k := group(t, n, 10)
		no := func() {
			t.Helper()
			for _, word := range append(noWords(), noWords()...) {
				refuses(t, k, api.ErrRange, say(0, word), say(n-1, word))
			}
		}
		no()
		says(t, k, 0, 1)
		says(t, k, n-1, api.MaxWords)
		no()
		passes(t, k, 0, 1)
		no()
		toHolder(t, k, n-1)
		passes(t, k, 1, api.MaxWords)
		no()
		noneWaits(t, k)
	}
}

// What one who is none says is not said: a member can say it.
func TestSaidByNoMember(t *testing.T) {
	for n := 2; n <= api.Members; n++ {
		k := group(t, n, 10)
		for i, word := range []int{1, 17, api.MaxWords} {
			for _, who := range noMembers(n) {
				refuses(t, k, api.ErrRange, say(who, word))
			}
			says(t, k, n-1, word)
			toHolder(t, k, n-1)
			passes(t, k, i, word)
		}
	}
}

// Of several faults the one that is named first is told.
func TestFirstOfSeveralFaults(t *testing.T) {
	for n := 2; n <= api.Members; n++ {
		k := group(t, n, 1)
		says(t, k, 0, 7, 8)
		says(t, k, n-1, 9)
		passes(t, k, 0, 7)
		for _, who := range noMembers(n) {
			for _, word := range append(noWords(), 7, 8, 9) {
				refuses(t, k, api.ErrRange, say(who, word))
			}
		}
		waits(t, k, 0, 8)
		waits(t, k, n-1, 9)
		toHolder(t, k, n-1)
		passes(t, k, 1, 9)
		passes(t, k, 2, 8)
	}
}

func TestWaitsOfNoMember(t *testing.T) {
	for n := 2; n <= api.Members; n++ {
		k := group(t, n, 1)
		for many := range 4 {
			for _, who := range noMembers(n) {
				if got, err := k.Waits(who); got != nil || plain.Told(err) != api.ErrRange {
					t.Errorf("in a group of %d: Waits(%d) = %v, %v, want nothing, %v", n, who, got, err, api.ErrRange)
				}
			}
			waits(t, k, n-1, rising(1, many)...)
			says(t, k, n-1, many+1)
		}
		holds(t, k, 0)
	}
}

// What is refused between takes no place, and no turn.
func TestRefusedChangesNothing(t *testing.T) {
	k := group(t, 3, 2)
	wrong := func() {
		t.Helper()
		refuses(t, k, api.ErrRange, say(-1, 20), say(3, 20), say(0, 0), say(1, 31), say(2, math.MaxInt))
		if _, err := k.Waits(3); plain.Told(err) != api.ErrRange {
			t.Fatalf("Waits(3) told %v", err)
		}
	}
	says(t, k, 0, 1)
	wrong()
	says(t, k, 0, 2, 3)
	refuses(t, k, api.ErrClash, say(0, 1), say(1, 2), say(2, 3))
	says(t, k, 2, 4)
	wrong()
	passes(t, k, 0, 1, 2)
	wrong()
	refuses(t, k, api.ErrClash, say(0, 1), say(1, 2), say(2, 3), say(1, 4))
	passes(t, k, 2)
	refuses(t, k, api.ErrClash, say(1, 1), say(2, 2), say(0, 3), say(2, 4))
	passes(t, k, 2, 4)
	wrong()
	says(t, k, 0, 20)
	passes(t, k, 3, 3, 20)
}

// What has its place is not kept with what waits.
func TestWhatHasItsPlaceWaitsNoMore(t *testing.T) {
	k := group(t, 2, 2)
	kept := func(want ...int) {
		t.Helper()
		for who, many := range want {
			if got := len(k.waits[who]); got != many {
				t.Fatalf("%d are kept with member %d, want %d", got, who, many)
			}
		}
	}
	says(t, k, 0, 1, 2, 3)
	says(t, k, 1, 4)
	kept(3, 1)
	refuses(t, k, api.ErrClash, say(0, 1), say(1, 1))
	kept(3, 1)
	passes(t, k, 0, 1, 2)
	kept(1, 1)
	passes(t, k, 2, 4)
	kept(1, 0)
	passes(t, k, 3, 3)
	kept(0, 0)
	passes(t, k, 4)
	kept(0, 0)
}

// scrawl writes into a list, and what lies behind it in its memory.
func scrawl[T any](l []T, with T) {
	l = l[:cap(l)]
	for at := range l {
		l[at] = with
	}
}

// scrawled tells whether each list holds what was written into it, each another thing, and nothing
// of another one.
func scrawled[T comparable](t *testing.T, lists [][]T, with func(i int) T) {
	t.Helper()
	for i, l := range lists {
		scrawl(l, with(i))
	}
	for i, l := range lists {
		if slices.ContainsFunc(l, func(x T) bool { return x != with(i) }) {
			t.Errorf("list %d shares memory with another one: %v", i, l)
		}
	}
}

func TestListsAreTheCallers(t *testing.T) {
	k := group(t, 2, 3)
	says(t, k, 0, rising(1, 14)...)
	says(t, k, 1, rising(15, 28)...)
	var words [][]int
	var placed [][]api.Placed
	look := func() {
		for who := range 2 {
			for range 2 {
				l, err := k.Waits(who)
				if err != nil {
					t.Fatal(err)
				}
				words = append(words, l)
			}
		}
	}
	look()
	for range 4 {
		placed = append(placed, k.Pass())
		look()
	}
	scrawled(t, words, func(i int) int { return -1 - i })
	scrawled(t, placed, func(i int) api.Placed { return api.Placed{At: -1 - i, Word: -1 - i} })
	waits(t, k, 0, rising(7, 14)...)
	waits(t, k, 1, rising(21, 28)...)
	passes(t, k, 12, 7, 8, 9)
	says(t, k, 0, 30)
	waits(t, k, 0, 10, 11, 12, 13, 14, 30)
	passes(t, k, 15, 21, 22, 23)
	waits(t, k, 1, rising(24, 28)...)
	refuses(t, k, api.ErrClash, say(0, 1), say(1, 7), say(0, 28))
}

func TestAnswersStayAsTheyWere(t *testing.T) {
	k := group(t, 2, 2)
	none, _ := k.Waits(0)
	says(t, k, 0, 5, 4, 3)
	three, _ := k.Waits(0)
	first := k.Pass()
	one, _ := k.Waits(0)
	says(t, k, 0, 2, 1)
	second := k.Pass()
	says(t, k, 1, 9)
	third := k.Pass()
	for range 4 {
		k.Pass()
	}
	for _, c := range []struct{ got, want []int }{{none, nil}, {three, []int{5, 4, 3}}, {one, []int{3}}} {
		if !slices.Equal(c.got, c.want) {
			t.Errorf("an answer became %v, want %v", c.got, c.want)
		}
	}
	for _, c := range []struct{ got, want []api.Placed }{
		{first, []api.Placed{{At: 0, Word: 5}, {At: 1, Word: 4}}}, {second, nil},
		{third, []api.Placed{{At: 2, Word: 3}, {At: 3, Word: 2}}},
	} {
		if !slices.Equal(c.got, c.want) {
			t.Errorf("an answer became %v, want %v", c.got, c.want)
		}
	}
}

func TestEachTokenForItself(t *testing.T) {
	one, other := group(t, 2, 1), group(t, 3, 2)
	says(t, one, 0, 7, 8)
	noneWaits(t, other)
	says(t, other, 0, 8, 7)
	says(t, other, 1, 9)
	waits(t, one, 0, 7, 8)
	waits(t, one, 1)
	passes(t, one, 0, 7)
	holds(t, one, 1)
	holds(t, other, 0)
	waits(t, other, 0, 8, 7)
	passes(t, other, 0, 8, 7)
	waits(t, one, 0, 8)
	passes(t, one, 1)
	holds(t, other, 1)
	passes(t, one, 1, 8)
	passes(t, other, 2, 9)
	holds(t, other, 2)
	holds(t, one, 1)
	says(t, one, 1, 9)
	another := group(t, 2, 1)
	holds(t, another, 0)
	noneWaits(t, another)
	says(t, another, 0, 7)
	passes(t, another, 0, 7)
	passes(t, one, 2, 9)
}
