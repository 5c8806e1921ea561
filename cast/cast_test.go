package cast

import (
	"math"
	"slices"
	"testing"

	"mootbell/api"
	"mootbell/faces"
	"mootbell/history"
	"mootbell/plain"
)

// call is one of what a Cast is asked, but for OnWay and History.
type call struct {
	what string
	a, b int
}

func say(who, word int) call { return call{"say", who, word} }
func give(i int) call        { return call{"give", i, 0} }
func drop(i int) call        { return call{"drop", i, 0} }
func twice(i int) call       { return call{"twice", i, 0} }

// asked lets a Cast do what is asked of it.
func asked(c *Cast, k call) ([]int, error) {
	switch k.what {
	case "say":
		return nil, c.Say(k.a, k.b)
	case "give":
		return c.Give(k.a)
	case "drop":
		return nil, c.Drop(k.a)
	}
	return nil, c.Twice(k.a)
}

func packet(from, to, word int) api.Packet { return api.Packet{From: from, To: to, Word: word} }

func said(who, word int) api.Event { return api.Event{Who: who, What: api.Say, Word: word} }

func heard(who, word int) api.Event { return api.Event{Who: who, What: api.Hear, Word: word} }

// group makes a new one.
func group(t *testing.T, n int) *Cast {
	t.Helper()
	c, err := New(n)
	if err != nil || c == nil {
		t.Fatalf("New(%d) = %v, %v", n, c, err)
	}
	return c
}

// does asks for what nothing is wrong with, and by which nothing is heard.
func does(t *testing.T, c *Cast, calls ...call) {
	t.Helper()
	for _, k := range calls {
		if got, err := asked(c, k); err != nil || len(got) > 0 {
			t.Fatalf("%v = %v, %v, want nothing", k, got, err)
		}
	}
}

// hears lets the i-th come.
func hears(t *testing.T, c *Cast, i int, want ...int) {
	t.Helper()
	if got, err := c.Give(i); !slices.Equal(got, want) || err != nil {
		t.Fatalf("Give(%d) = %v, %v, want %v", i, got, err, want)
	}
}

// onWay and was hold OnWay and History against what is asked for.
func onWay(t *testing.T, c *Cast, want ...api.Packet) {
	t.Helper()
	if got := c.OnWay(); !slices.Equal(got, want) {
		t.Fatalf("OnWay = %v, want %v", got, want)
	}
}

func was(t *testing.T, c *Cast, want ...api.Event) {
	t.Helper()
	if got := c.History(); !slices.Equal(got, want) {
		t.Fatalf("History = %v, want %v", got, want)
	}
}

// refuses asks for what is told to be wrong, by which nothing that can be looked at changes.
func refuses(t *testing.T, c *Cast, want api.Errno, calls ...call) {
	t.Helper()
	for _, k := range calls {
		packets, events := c.OnWay(), c.History()
		if got, err := asked(c, k); plain.Told(err) != want || got != nil {
			t.Fatalf("%v = %v, %v, want nothing, %v", k, got, err, want)
		}
		onWay(t, c, packets...)
		was(t, c, events...)
	}
}

// find is the place of the first such packet on its way.
func find(t *testing.T, c *Cast, p api.Packet) int {
	t.Helper()
	i := slices.Index(c.OnWay(), p)
	if i < 0 {
		t.Fatalf("%v is not among %v", p, c.OnWay())
	}
	return i
}

// comes lets the first such packet come.
func comes(t *testing.T, c *Cast, p api.Packet, want ...int) {
	t.Helper()
	hears(t, c, find(t, c, p), want...)
}

// fill puts doubles of the first packet behind all, until so many are on their way.
func fill(t *testing.T, c *Cast, many int) {
	t.Helper()
	for range many - len(c.OnWay()) {
		does(t, c, twice(0))
	}
}

// empty drops all that is on its way; giveAll lets it come.
func empty(t *testing.T, c *Cast) {
	t.Helper()
	for range c.OnWay() {
		does(t, c, drop(0))
	}
}

func giveAll(t *testing.T, c *Cast) {
	t.Helper()
	for range c.OnWay() {
		if _, err := c.Give(0); err != nil {
			t.Fatal(err)
		}
	}
}

// sizes are those that a group may have.
func sizes() []int { return []int{2, 3, 4, 5} }

// strangers are no members of a group of n; of a greater one some would be.
func strangers(n int) []int {
	l := []int{math.MinInt, math.MinInt32, -n, -1, api.Members, api.Members + 1, math.MaxInt32, math.MaxInt}
	for who := n; who < api.Members; who++ {
		l = append(l, who)
	}
	return l
}

func noWords() []int {
	return []int{math.MinInt, -api.MaxWords, -1, 0, api.MaxWords + 1, math.MaxInt}
}

// noPlaces are where nothing stands, of so many: the first place too, of none.
func noPlaces(of int) []int {
	return []int{math.MinInt, math.MinInt32, -of - 1, -1, of, of + 1, api.MaxOnWay, math.MaxInt32, math.MaxInt}
}

func TestNewHasNothing(t *testing.T) {
	for _, n := range sizes() {
		c := group(t, n)
		onWay(t, c)
		was(t, c)
		for _, i := range noPlaces(0) {
			refuses(t, c, api.ErrRange, give(i), drop(i), twice(i))
		}
	}
}

func TestNewOutOfRange(t *testing.T) {
	for _, n := range []int{math.MinInt, math.MinInt32, -2, -1, 0, 1, api.Members + 1, api.Members + 2, math.MaxInt32, math.MaxInt} {
		if c, err := New(n); c != nil || plain.Told(err) != api.ErrRange {
			t.Errorf("New(%d) = %v, %v, want nil, ErrRange", n, c, err)
		}
	}
}

func TestSayIsSentToEachOther(t *testing.T) {
	for _, n := range sizes() {
		for who := range n {
			for _, word := range []int{1, 2, api.MaxWords - 1, api.MaxWords} {
				c := group(t, n)
				does(t, c, say(who, word))
				var want []api.Packet
				for to := range n {
					if to != who {
						want = append(want, packet(who, to, word))
					}
				}
				onWay(t, c, want...)
				was(t, c, said(who, word))
			}
		}
	}
}

func TestFirstBetweenAndLastSpeak(t *testing.T) {
	c := group(t, 5)
	does(t, c, say(0, 30), say(2, 1), say(4, 17))
	onWay(t, c,
		packet(0, 1, 30), packet(0, 2, 30), packet(0, 3, 30), packet(0, 4, 30),
		packet(2, 0, 1), packet(2, 1, 1), packet(2, 3, 1), packet(2, 4, 1),
		packet(4, 0, 17), packet(4, 1, 17), packet(4, 2, 17), packet(4, 3, 17))
	was(t, c, said(0, 30), said(2, 1), said(4, 17))
}

func TestGive(t *testing.T) {
	for _, n := range sizes() {
		for who := range n {
			c := group(t, n)
			does(t, c, say(who, 9))
			want := []api.Event{said(who, 9)}
			// From the last to the first, so that it is the i-th that comes.
			for i, p := range slices.Backward(c.OnWay()) {
				left := c.OnWay()[:i]
				hears(t, c, i, 9)
				onWay(t, c, left...)
				want = append(want, heard(p.To, 9))
				was(t, c, want...)
			}
		}
	}
}

func TestPlacesOfWhatIsLeft(t *testing.T) {
	c := group(t, 3)
	does(t, c, say(1, 5), say(1, 6))
	hears(t, c, 1, 5)
	hears(t, c, 2, 6)
	onWay(t, c, packet(1, 0, 5), packet(1, 0, 6))
	hears(t, c, 0, 5)
	hears(t, c, 0, 6)
	was(t, c, said(1, 5), said(1, 6), heard(2, 5), heard(2, 6), heard(0, 5), heard(0, 6))
}

func TestAnswerWaitsForItsQuestion(t *testing.T) {
	c := group(t, 3)
	does(t, c, say(0, 20))
	comes(t, c, packet(0, 1, 20), 20)
	does(t, c, say(1, 10))
	comes(t, c, packet(1, 2, 10))
	onWay(t, c, packet(0, 2, 20), packet(1, 0, 10))
	was(t, c, said(0, 20), heard(1, 20), said(1, 10))
	hears(t, c, 0, 20, 10)
	was(t, c, said(0, 20), heard(1, 20), said(1, 10), heard(2, 20), heard(2, 10))
	// Who asked has its question.
	hears(t, c, 0, 10)
	was(t, c, said(0, 20), heard(1, 20), said(1, 10), heard(2, 20), heard(2, 10), heard(0, 10))
}

func TestNoAnswerWaitsForNothing(t *testing.T) {
	// Neither of the two knew of the other: they are heard in either order.
	c := group(t, 3)
	does(t, c, say(0, 1), say(1, 2))
	comes(t, c, packet(1, 2, 2), 2)
	comes(t, c, packet(0, 2, 1), 1)
	comes(t, c, packet(0, 1, 1), 1)
	comes(t, c, packet(1, 0, 2), 2)
	was(t, c, said(0, 1), said(1, 2), heard(2, 2), heard(2, 1), heard(1, 1), heard(0, 2))
}

func TestWhatWaitsIsNotKnown(t *testing.T) {
	// Member 2 says a word while another waits at it: that word is no question of its own.
	c := group(t, 4)
	does(t, c, say(0, 1), say(0, 2))
	comes(t, c, packet(0, 2, 2))
	does(t, c, say(2, 3))
	comes(t, c, packet(2, 3, 3), 3)
	comes(t, c, packet(0, 2, 1), 1, 2)
	does(t, c, say(2, 4))
	comes(t, c, packet(2, 3, 4))
	comes(t, c, packet(0, 3, 1), 1)
	comes(t, c, packet(0, 3, 2), 2, 4)
}

func TestSeveralHeardByOne(t *testing.T) {
	c := group(t, 5)
	does(t, c, say(0, 11))
	hears(t, c, 0, 11)
	does(t, c, say(1, 12))
	comes(t, c, packet(0, 2, 11), 11)
	comes(t, c, packet(1, 2, 12), 12)
	does(t, c, say(2, 13), say(2, 14), say(1, 15))
	// All that can be heard is heard, of those that can in the order in which they came.
	for _, p := range []api.Packet{packet(1, 4, 15), packet(2, 4, 14), packet(2, 4, 13), packet(1, 4, 12)} {
		comes(t, c, p)
	}
	before := c.History()
	comes(t, c, packet(0, 4, 11), 11, 12, 15, 13, 14)
	was(t, c, append(before, heard(4, 11), heard(4, 12), heard(4, 15), heard(4, 13), heard(4, 14))...)
}

func TestWordsOfOneInAnotherOrder(t *testing.T) {
	for _, n := range sizes() {
		c := group(t, n)
		last := n - 1
		does(t, c, say(last, 4), say(last, 3), say(last, 2), say(last, 1))
		comes(t, c, packet(last, 0, 2))
		comes(t, c, packet(last, 0, 1))
		was(t, c, said(last, 4), said(last, 3), said(last, 2), said(last, 1))
		comes(t, c, packet(last, 0, 4), 4)
		comes(t, c, packet(last, 0, 3), 3, 2, 1)
		was(t, c, said(last, 4), said(last, 3), said(last, 2), said(last, 1), heard(0, 4), heard(0, 3), heard(0, 2), heard(0, 1))
	}
}

func TestWaitsForEachAlone(t *testing.T) {
	// What waits at one is heard by another at once, if nothing is missing there.
	c := group(t, 3)
	does(t, c, say(0, 1), say(0, 2))
	comes(t, c, packet(0, 1, 2))
	comes(t, c, packet(0, 2, 1), 1)
	comes(t, c, packet(0, 2, 2), 2)
	was(t, c, said(0, 1), said(0, 2), heard(2, 1), heard(2, 2))
	hears(t, c, 0, 1, 2)
}

func TestSecondTimeIsNothing(t *testing.T) {
	c := group(t, 3)
	does(t, c, say(0, 7), twice(0), twice(0), twice(3))
	onWay(t, c, packet(0, 1, 7), packet(0, 2, 7), packet(0, 1, 7), packet(0, 1, 7), packet(0, 1, 7))
	hears(t, c, 2, 7)
	does(t, c, give(0), give(2))
	onWay(t, c, packet(0, 2, 7), packet(0, 1, 7))
	was(t, c, said(0, 7), heard(1, 7))
	hears(t, c, 0, 7)
	does(t, c, give(0))
	onWay(t, c)
	was(t, c, said(0, 7), heard(1, 7), heard(2, 7))
}

func TestSecondTimeWhileItWaits(t *testing.T) {
	c := group(t, 2)
	does(t, c, say(0, 1), say(0, 2), twice(1), twice(1), give(1), give(1))
	onWay(t, c, packet(0, 1, 1), packet(0, 1, 2))
	was(t, c, said(0, 1), said(0, 2))
	hears(t, c, 0, 1, 2)
	does(t, c, give(0))
	onWay(t, c)
	was(t, c, said(0, 1), said(0, 2), heard(1, 1), heard(1, 2))
}

func TestSecondTimeAfterSeveralWereHeard(t *testing.T) {
	c := group(t, 2)
	does(t, c, say(1, 3), say(1, 2), say(1, 1))
	for i := range 3 {
		does(t, c, twice(i))
	}
	does(t, c, give(2), give(1))
	hears(t, c, 0, 3, 2, 1)
	does(t, c, give(2), give(1), give(0))
	was(t, c, said(1, 3), said(1, 2), said(1, 1), heard(0, 3), heard(0, 2), heard(0, 1))
}

func TestTwiceSavesWhatIsDropped(t *testing.T) {
	c := group(t, 4)
	does(t, c, say(3, 8), twice(1), drop(1))
	onWay(t, c, packet(3, 0, 8), packet(3, 2, 8), packet(3, 1, 8))
	hears(t, c, 2, 8)
	was(t, c, said(3, 8), heard(1, 8))
}

func TestDroppedNeverComes(t *testing.T) {
	c := group(t, 3)
	does(t, c, say(0, 1), drop(1), say(0, 2))
	onWay(t, c, packet(0, 1, 1), packet(0, 1, 2), packet(0, 2, 2))
	hears(t, c, 0, 1)
	hears(t, c, 0, 2)
	does(t, c, say(1, 3))
	// The word of member 0 and the answer wait at member 2 for what never comes.
	does(t, c, give(0), give(1))
	hears(t, c, 0, 3)
	onWay(t, c)
	was(t, c, said(0, 1), said(0, 2), heard(1, 1), heard(1, 2), said(1, 3), heard(0, 3))
	refuses(t, c, api.ErrClash, say(0, 1), say(2, 1))
	// Who lacks something still speaks, and is heard.
	does(t, c, say(2, 4))
	hears(t, c, 1, 4)
	hears(t, c, 0, 4)
}

func TestFirstBetweenLastPlace(t *testing.T) {
	a, b, c := packet(1, 0, 6), packet(1, 2, 6), packet(1, 3, 6)
	for i, left := range [][]api.Packet{{b, c}, {a, c}, {a, b}} {
		one := []api.Packet{a, b, c}[i]

		g := group(t, 4)
		does(t, g, say(1, 6))
		hears(t, g, i, 6)
		onWay(t, g, left...)
		was(t, g, said(1, 6), heard(one.To, 6))
		refuses(t, g, api.ErrRange, give(2), drop(2), twice(2))

		g = group(t, 4)
		does(t, g, say(1, 6), drop(i))
		onWay(t, g, left...)
		was(t, g, said(1, 6))
		refuses(t, g, api.ErrRange, give(2), drop(2), twice(2))

		g = group(t, 4)
		does(t, g, say(1, 6), twice(i))
		onWay(t, g, a, b, c, one)
		was(t, g, said(1, 6))
		refuses(t, g, api.ErrRange, give(4), drop(4), twice(4))
	}
}

func TestRoomOnTheWay(t *testing.T) {
	for _, n := range sizes() {
		for who := range n {
			for _, ends := range []call{give(1), drop(1), give(0), drop(0)} {
				c := group(t, n)
				does(t, c, say(0, 1))
				// One less than a word needs.
				fill(t, c, api.MaxOnWay-(n-1)+1)
				refuses(t, c, api.ErrFull, say(who, 2), say((who+1)%n, 2))
				if _, err := asked(c, ends); err != nil {
					t.Fatal(err)
				}
				does(t, c, say(who, 2))
				if len(c.OnWay()) != api.MaxOnWay {
					t.Fatalf("%d are on their way, want %d", len(c.OnWay()), api.MaxOnWay)
				}
				refuses(t, c, api.ErrFull, say(who, 3), twice(0), twice(api.MaxOnWay-1))
				if _, err := asked(c, ends); err != nil {
					t.Fatal(err)
				}
				if n == 2 {
					does(t, c, say(who, 3))
				} else {
					refuses(t, c, api.ErrFull, say(who, 3))
					does(t, c, twice(0))
				}
				refuses(t, c, api.ErrFull, say(who, 4), twice(0))
			}
		}
	}
}

func TestRefusedForRoomWasNotSaid(t *testing.T) {
	c := group(t, 3)
	does(t, c, say(0, 1))
	fill(t, c, api.MaxOnWay-1)
	refuses(t, c, api.ErrFull, say(1, 2), say(1, 2), say(2, 2), say(0, 2))
	empty(t, c)
	// The word is still there to be said, and no number of who was refused is missing.
	does(t, c, say(1, 2))
	hears(t, c, 1, 2)
	hears(t, c, 0, 2)
	was(t, c, said(0, 1), said(1, 2), heard(2, 2), heard(0, 2))
}

func TestTwiceWhereThereIsNoRoom(t *testing.T) {
	c := group(t, 5)
	does(t, c, say(4, 30))
	fill(t, c, api.MaxOnWay)
	refuses(t, c, api.ErrFull, twice(0), twice(3), twice(api.MaxOnWay-1))
	for _, i := range noPlaces(api.MaxOnWay) {
		refuses(t, c, api.ErrRange, give(i), drop(i), twice(i))
	}
	does(t, c, drop(0), twice(0))
	refuses(t, c, api.ErrFull, twice(0))
}

// TestRoomInTheHistory: the last word for which there is room, and one more, whether all was heard,
// or dropped, or some of it.
func TestRoomInTheHistory(t *testing.T) {
	ends := []func(c *Cast){
		func(c *Cast) { giveAll(t, c) },
		func(c *Cast) { empty(t, c) },
		func(c *Cast) { does(t, c, drop(0)); giveAll(t, c) },
	}
	for _, n := range sizes() {
		for how, end := range ends {
			c := group(t, n)
			for word := 1; word <= api.MaxEvents/n; word++ {
				does(t, c, say(word%n, word))
				end(c)
			}
			onWay(t, c)
			if how == 0 && len(c.History()) != api.MaxEvents {
				t.Fatalf("of %d: %d events, want %d", n, len(c.History()), api.MaxEvents)
			}
			if how == 1 && len(c.History()) != api.MaxEvents/n {
				t.Fatalf("of %d: %d events, want %d", n, len(c.History()), api.MaxEvents/n)
			}
			for who := range n {
				if n > 2 {
					refuses(t, c, api.ErrFull, say(who, api.MaxEvents/n+1), say(who, api.MaxWords))
				}
				refuses(t, c, api.ErrClash, say(who, api.MaxEvents/n), say(who, 1))
				refuses(t, c, api.ErrRange, say(who, api.MaxWords+1))
			}
		}
	}
}

func TestRoomInTheHistoryForWhatIsOnItsWay(t *testing.T) {
	// All words of a group of two, and as many as a group of three may say, stand on their way.
	for _, n := range []int{2, 3} {
		c := group(t, n)
		for word := 1; word <= api.MaxEvents/n; word++ {
			does(t, c, say(0, word))
		}
		if n == 3 {
			refuses(t, c, api.ErrFull, say(0, 21))
			hears(t, c, 0, 1)
			hears(t, c, 0, 1)
			refuses(t, c, api.ErrFull, say(0, 21), say(1, 30))
		}
		giveAll(t, c)
		if len(c.History()) != api.MaxEvents {
			t.Fatalf("of %d: %d events, want %d", n, len(c.History()), api.MaxEvents)
		}
		if at, err := history.Check(c.History()); at != 0 || err != nil {
			t.Fatalf("of %d: History is wrong at %d: %v", n, at, err)
		}
	}
}

func TestDoublesTakeNoRoomInTheHistory(t *testing.T) {
	c := group(t, 5)
	for word := 1; word < api.MaxEvents/5; word++ {
		does(t, c, say(word%5, word), twice(0), twice(1), twice(2), twice(3))
		giveAll(t, c)
	}
	does(t, c, say(0, 29))
	refuses(t, c, api.ErrFull, say(0, 30))
	giveAll(t, c)
	if len(c.History()) != api.MaxEvents {
		t.Fatalf("%d events, want %d", len(c.History()), api.MaxEvents)
	}
}

// full has a group in which a word was said, and no other one has room on the way; over has one
// that said all that the History has room for.
func full(t *testing.T, n int) *Cast {
	t.Helper()
	c := group(t, n)
	does(t, c, say(1, 5))
	fill(t, c, api.MaxOnWay)
	return c
}

func over(t *testing.T, n int) *Cast {
	t.Helper()
	c := group(t, n)
	for word := 1; word <= api.MaxEvents/n; word++ {
		does(t, c, say(0, word))
		empty(t, c)
	}
	return c
}

func TestSayOutOfRange(t *testing.T) {
	// That a word was said, and what is full, are told of only where both numbers may be.
	for _, n := range sizes() {
		for _, c := range []*Cast{group(t, n), full(t, n), over(t, n)} {
			for _, stranger := range strangers(n) {
				for _, word := range append(noWords(), 1, 5, api.MaxWords) {
					refuses(t, c, api.ErrRange, say(stranger, word))
				}
			}
			for _, word := range noWords() {
				for who := range n {
					refuses(t, c, api.ErrRange, say(who, word))
				}
			}
		}
	}
}

func TestSaidByTheSameAndByAnother(t *testing.T) {
	for _, n := range sizes() {
		// That it was said is told ahead of what is full.
		for _, c := range []*Cast{full(t, n), over(t, n)} {
			for who := range n {
				refuses(t, c, api.ErrClash, say(who, 5))
			}
		}
		c := group(t, n)
		does(t, c, say(n-1, 5))
		for who := range n {
			refuses(t, c, api.ErrClash, say(who, 5))
		}
		giveAll(t, c)
		for who := range n {
			refuses(t, c, api.ErrClash, say(who, 5))
		}
		does(t, c, say(0, 6))
	}
}

func TestBothAreFull(t *testing.T) {
	c := group(t, 3)
	for word := 1; word <= 20; word++ {
		does(t, c, say(word%3, word))
	}
	refuses(t, c, api.ErrFull, say(0, 21), twice(0))
	refuses(t, c, api.ErrClash, say(0, 20))
	refuses(t, c, api.ErrRange, say(3, 21), say(0, 31), say(0, 0))
}

func TestNoSuchPlace(t *testing.T) {
	for _, n := range sizes() {
		c := group(t, n)
		does(t, c, say(0, 1))
		for _, i := range noPlaces(n - 1) {
			refuses(t, c, api.ErrRange, give(i), drop(i), twice(i))
		}
		giveAll(t, c)
		for _, i := range noPlaces(0) {
			refuses(t, c, api.ErrRange, give(i), drop(i), twice(i))
		}
	}
}

func TestRefusedChangesNothing(t *testing.T) {
	made := func() *Cast {
		c := group(t, 3)
		does(t, c, say(0, 1), say(0, 2))
		comes(t, c, packet(0, 1, 2))
		does(t, c, say(2, 3))
		return c
	}
	c, same := made(), made()
	refuses(t, c, api.ErrRange, say(-1, 4), say(3, 4), say(4, 4), say(0, 0), say(1, 31), give(-1), give(5), drop(-1), drop(5), twice(-1), twice(5))
	refuses(t, c, api.ErrClash, say(0, 1), say(1, 1), say(2, 1), say(1, 3))
	fill(t, c, api.MaxOnWay)
	fill(t, same, api.MaxOnWay)
	refuses(t, c, api.ErrFull, say(0, 4), say(1, 4), say(2, 4), twice(0), twice(39))
	// Whatever is asked now, both answer alike.
	for _, k := range []call{give(0), give(0), give(1), drop(10), drop(10), say(1, 4), give(36), say(0, 5), drop(0), drop(0), say(2, 6), give(37), give(36), give(35), give(34), give(33), say(1, 4)} {
		got, err := asked(c, k)
		want, wantErr := asked(same, k)
		if !slices.Equal(got, want) || plain.Told(err) != plain.Told(wantErr) {
			t.Fatalf("%v = %v, %v, want %v, %v", k, got, err, want, wantErr)
		}
		onWay(t, c, same.OnWay()...)
		was(t, c, same.History()...)
	}
}

func TestEachForItself(t *testing.T) {
	one, other := group(t, 3), group(t, 3)
	does(t, one, say(0, 1), say(0, 2))
	onWay(t, other)
	was(t, other)
	does(t, other, say(0, 2))
	hears(t, other, 0, 2)
	onWay(t, one, packet(0, 1, 1), packet(0, 2, 1), packet(0, 1, 2), packet(0, 2, 2))
	was(t, one, said(0, 1), said(0, 2))
	does(t, one, give(2))
	hears(t, one, 0, 1, 2)
}

// scrawl writes into a list, and what lies behind it in its memory.
func scrawl[T any](l []T, with T) {
	l = l[:cap(l)]
	for at := range l {
		l[at] = with
	}
}

func TestListsAreTheCallers(t *testing.T) {
	c := group(t, 3)
	var packets [][]api.Packet
	var events [][]api.Event
	var words [][]int
	for _, k := range []call{say(0, 1), say(0, 2), say(1, 3), give(3), twice(0), give(1), give(1), drop(1), say(2, 4), give(0)} {
		got, err := asked(c, k)
		if err != nil {
			t.Fatalf("%v told %v", k, err)
		}
		words = append(words, got)
		packets = append(packets, c.OnWay(), c.OnWay())
		events = append(events, c.History(), c.History())
	}
	packetsWant, eventsWant := c.OnWay(), c.History()
	if len(packetsWant) == 0 || !slices.ContainsFunc(words, func(l []int) bool { return len(l) > 1 }) {
		t.Fatalf("the row is too plain: %v, %v", packetsWant, words)
	}
	for i := range packets {
		scrawl(packets[i], packet(-1-i, 0, 0))
		scrawl(events[i], said(-1-i, 0))
	}
	for i := range words {
		scrawl(words[i], -1-i)
	}
	for i := range packets {
		if slices.ContainsFunc(packets[i], func(p api.Packet) bool { return p.From != -1-i }) {
			t.Errorf("list %d of packets shares memory with another one: %v", i, packets[i])
		}
		if slices.ContainsFunc(events[i], func(e api.Event) bool { return e.Who != -1-i }) {
			t.Errorf("list %d of events shares memory with another one: %v", i, events[i])
		}
	}
	for i, l := range words {
		if slices.ContainsFunc(l, func(word int) bool { return word != -1-i }) {
			t.Errorf("list %d of words shares memory with another one: %v", i, l)
		}
	}
	onWay(t, c, packetsWant...)
	was(t, c, eventsWant...)
}

func TestListsStayAsTheyWere(t *testing.T) {
	c := group(t, 4)
	does(t, c, say(0, 1), say(1, 2), say(2, 3))
	packets, events := c.OnWay(), c.History()
	packetsWere, eventsWere := slices.Clone(packets), slices.Clone(events)
	heardFirst, err := c.Give(0)
	if err != nil {
		t.Fatal(err)
	}
	does(t, c, drop(0), twice(0), say(3, 4))
	giveAll(t, c)
	if !slices.Equal(packets, packetsWere) || !slices.Equal(events, eventsWere) || !slices.Equal(heardFirst, []int{1}) {
		t.Errorf("lists became %v, %v, %v, were %v, %v, [1]", packets, events, heardFirst, packetsWere, eventsWere)
	}
}

// told is C1 told in another way, without vectors: of each word who said it and all words that it
// had said or heard by then, and of each member all that ever came, in that order.
type told struct {
	n      int
	speech map[int]speech
	way    []api.Packet
	came   map[int][]int
	events []api.Event
}

type speech struct {
	who   int
	knows []int
}

func newTold(n int) *told { return &told{n: n, speech: map[int]speech{}, came: map[int][]int{}} }

// knows are the words that a member said or heard.
func (m *told) knows(who int) []int {
	var l []int
	for _, e := range m.events {
		if e.Who == who {
			l = append(l, e.Word)
		}
	}
	return l
}

// canHear tells whether a member lacks nothing of what a word's speaker knew.
func (m *told) canHear(who, word int) bool {
	has := m.knows(who)
	lacks := func(w int) bool { return !slices.Contains(has, w) }
	return lacks(word) && !slices.ContainsFunc(m.speech[word].knows, lacks)
}

func (m *told) say(who, word int) api.Errno {
	switch _, was := m.speech[word]; {
	case !slices.Contains([]int{0, 1, 2, 3, 4}[:m.n], who), word < 1, word > 30:
		return api.ErrRange
	case was:
		return api.ErrClash
	case 40-len(m.way) < m.n-1, m.n*len(m.speech) > 60-m.n:
		return api.ErrFull
	}
	m.speech[word] = speech{who, m.knows(who)}
	m.events = append(m.events, said(who, word))
	for to := 0; to < m.n; to++ {
		if to != who {
			m.way = append(m.way, packet(who, to, word))
		}
	}
	return api.OK
}

// come lets a word come to a member, and whatever it can hear by that.
func (m *told) come(p api.Packet) []int {
	if slices.Contains(m.came[p.To], p.Word) {
		return nil
	}
	m.came[p.To] = append(m.came[p.To], p.Word)
	var l []int
	for {
		at := slices.IndexFunc(m.came[p.To], func(word int) bool { return m.canHear(p.To, word) })
		if at < 0 {
			return l
		}
		l = append(l, m.came[p.To][at])
		m.events = append(m.events, heard(p.To, m.came[p.To][at]))
	}
}

func (m *told) ask(k call) ([]int, api.Errno) {
	if k.what == "say" {
		return nil, m.say(k.a, k.b)
	}
	if k.a < 0 || k.a >= len(m.way) {
		return nil, api.ErrRange
	}
	p := m.way[k.a]
	if k.what == "twice" {
		if len(m.way) == 40 {
			return nil, api.ErrFull
		}
		m.way = append(m.way, p)
		return nil, api.OK
	}
	m.way = append(slices.Clone(m.way[:k.a]), m.way[k.a+1:]...)
	if k.what == "drop" {
		return nil, api.OK
	}
	return m.come(p), api.OK
}

// hold asks a new one for a row of things, and holds each answer against told; what was heard was
// heard by cause.
func hold(t *testing.T, n int, row []call) {
	t.Helper()
	c, m := group(t, n), newTold(n)
	for _, k := range row {
		want, errno := m.ask(k)
		got, err := asked(c, k)
		if !slices.Equal(got, want) || plain.Told(err) != errno {
			t.Fatalf("of %d, %v: %v = %v, %v, want %v, %v", n, row, k, got, err, want, errno)
		}
		if !slices.Equal(c.OnWay(), m.way) || !slices.Equal(c.History(), m.events) {
			t.Fatalf("of %d, %v: behind %v: %v, %v, want %v, %v", n, row, k, c.OnWay(), c.History(), m.way, m.events)
		}
	}
	if f, err := faces.Of(c.History()); err != nil || !f.Causal || !f.Fifo {
		t.Fatalf("of %d, %v: faces %v, %v, want by cause", n, row, f, err)
	}
}

func TestEveryShortRow(t *testing.T) {
	kinds := []call{say(0, 0), say(1, 0), say(2, 0), say(0, 1), give(0), give(1), give(3), drop(0), drop(2), twice(0), twice(3)}
	var grow func(row []call)
	grow = func(row []call) {
		if len(row) == 5 {
			hold(t, 2, row)
			hold(t, 3, row)
			return
		}
		for _, k := range kinds {
			if k.what == "say" && k.b == 0 {
				k.b = len(row) + 1
			}
			grow(append(slices.Clone(row), k))
		}
	}
	grow(nil)
}

// dice are numbers that look thrown, and are the same each time.
type dice uint64

func (d *dice) below(n int) int {
	*d = *d*6364136223846793005 + 1442695040888963407
	return int(uint64(*d>>33) % uint64(n))
}

// throw makes something to ask a group of n; the more is given, the emptier the way stays.
func (d *dice) throw(n, gives int) call {
	a, word := d.below(n), d.below(api.MaxWords)+1
	if d.below(25) == 0 {
		odd := []int{math.MinInt, -1, 0, n, api.Members, api.MaxWords + 1, api.MaxOnWay, math.MaxInt}
		a, word = odd[d.below(len(odd))], odd[d.below(len(odd))]
	}
	kinds := []call{say(a, word), say(a, word), drop(d.below(api.MaxOnWay)), drop(a), twice(d.below(api.MaxOnWay)), twice(a), give(a)}
	if i := d.below(len(kinds) + gives); i < len(kinds) {
		return kinds[i]
	}
	return give(d.below(api.MaxOnWay / 2))
}

func TestLongRows(t *testing.T) {
	d := dice(7)
	for range 1500 {
		n, gives := d.below(api.Members-1)+2, d.below(15)
		var row []call
		for range 150 {
			row = append(row, d.throw(n, gives))
		}
		hold(t, n, row)
	}
}
