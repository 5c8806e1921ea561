package cause

import (
	"math"
	"slices"
	"testing"

	"mootbell/api"
	"mootbell/faces"
	"mootbell/plain"
)

const (
	most = api.MaxCount
	room = api.MaxOnWay
)

// step is a word that comes, and what is asked for of Take, and of Waits behind it.
type step struct {
	said  api.Said
	heard []int
	errno api.Errno
	waits int
}

// said makes what somebody said.
func said(who, word int, clock ...int) api.Said {
	return api.Said{Who: who, Word: word, Clock: clock}
}

// member makes a new one.
func member(t *testing.T, me int) *Cause {
	t.Helper()
	c, err := New(me)
	if err != nil || c == nil {
		t.Fatalf("New(%d) = %v, %v", me, c, err)
	}
	return c
}

// look holds Clock and Waits against what is asked for.
func look(t *testing.T, c *Cause, clock []int, waits int) {
	t.Helper()
	if got := c.Clock(); !slices.Equal(got, clock) {
		t.Errorf("Clock = %v, want %v", got, clock)
	}
	if got := c.Waits(); got != waits {
		t.Errorf("Waits = %d, want %d", got, waits)
	}
}

// say lets one say a word, and holds what it Said against what is asked for.
func say(t *testing.T, c *Cause, word int, clock ...int) {
	t.Helper()
	waits := c.Waits()
	s, err := c.Say(word)
	if err != nil || s.Who != c.me || s.Word != word || !slices.Equal(s.Clock, clock) {
		t.Fatalf("Say(%d) = %v, %v, want %v", word, s, err, said(c.me, word, clock...))
	}
	look(t, c, clock, waits)
}

// noSay lets one say a word that is refused, by which nothing changes.
func noSay(t *testing.T, c *Cause, word int, want api.Errno) {
	t.Helper()
	clock, waits := c.Clock(), c.Waits()
	s, err := c.Say(word)
	if plain.Told(err) != want || s.Who != 0 || s.Word != 0 || s.Clock != nil {
		t.Fatalf("Say(%d) = %v, %v, want nothing, %v", word, s, err, want)
	}
	look(t, c, clock, waits)
}

// take holds one Take against what is asked for.
func take(t *testing.T, c *Cause, s step) {
	t.Helper()
	clock := c.Clock()
	heard, err := c.Take(s.said)
	if got := plain.Told(err); got != s.errno {
		t.Fatalf("Take(%v) told %v, want %v", s.said, got, s.errno)
	}
	if !slices.Equal(heard, s.heard) || err != nil && heard != nil {
		t.Fatalf("Take(%v) = %v, want %v", s.said, heard, s.heard)
	}
	if c.Waits() != s.waits {
		t.Fatalf("behind Take(%v) Waits = %d, want %d", s.said, c.Waits(), s.waits)
	}
	if len(heard) == 0 && !slices.Equal(c.Clock(), clock) {
		t.Fatalf("Take(%v) heard nothing, and Clock became %v, was %v", s.said, c.Clock(), clock)
	}
}

// strangers are members that there are not; noWords are words that there are not.
func strangers() []int {
	return []int{math.MinInt, math.MinInt32, -1, api.Members, api.Members + 1, math.MaxInt32, math.MaxInt}
}

func noWords() []int {
	return []int{math.MinInt, -api.MaxWords, -1, 0, api.MaxWords + 1, math.MaxInt}
}

func TestNew(t *testing.T) {
	for me := range api.Members {
		look(t, member(t, me), []int{0, 0, 0, 0, 0}, 0)
	}
	for _, me := range strangers() {
		if c, err := New(me); plain.Told(err) != api.ErrRange || c != nil {
			t.Errorf("New(%d) = %v, %v, want nil, ErrRange", me, c, err)
		}
	}
}

func TestEachForItself(t *testing.T) {
	one, other := member(t, 2), member(t, 2)
	say(t, one, 5, 0, 0, 1, 0, 0)
	take(t, one, step{said(1, 6, 0, 2, 0, 0, 0), nil, 0, 1})
	look(t, other, []int{0, 0, 0, 0, 0}, 0)
	take(t, other, step{said(1, 7, 0, 1, 0, 0, 0), []int{7}, 0, 0})
	look(t, one, []int{0, 0, 1, 0, 0}, 1)
	take(t, one, step{said(1, 8, 0, 1, 0, 0, 0), []int{8, 6}, 0, 0})
}

func TestSay(t *testing.T) {
	for me := range api.Members {
		c := member(t, me)
		clock := make([]int, api.Members)
		// A word may be said again: it is told apart by its number.
		for _, word := range []int{1, api.MaxWords, 7, 7} {
			clock[me]++
			say(t, c, word, clock...)
		}
	}
}

func TestSayTellsWhatWasHeard(t *testing.T) {
	c := member(t, 1)
	say(t, c, 3, 0, 1, 0, 0, 0)
	take(t, c, step{said(4, 9, 0, 0, 0, 0, 1), []int{9}, 0, 0})
	take(t, c, step{said(0, 8, 1, 1, 0, 0, 1), []int{8}, 0, 0})
	take(t, c, step{said(0, 7, 3, 1, 0, 0, 1), nil, 0, 1})
	// What waits is not heard yet, and no part of the vector.
	say(t, c, 4, 1, 2, 0, 0, 1)
	take(t, c, step{said(0, 6, 2, 1, 0, 0, 1), []int{6, 7}, 0, 0})
	say(t, c, 5, 3, 3, 0, 0, 1)
}

func TestSayWithFaults(t *testing.T) {
	c := member(t, 3)
	take(t, c, step{said(0, 9, 1, 0, 0, 0, 0), []int{9}, 0, 0})
	take(t, c, step{said(0, 8, 3, 0, 0, 0, 0), nil, 0, 1})
	for _, word := range noWords() {
		noSay(t, c, word, api.ErrRange)
	}
	say(t, c, 1, 1, 0, 0, 1, 0)
}

func TestSayUpToTheLastNumber(t *testing.T) {
	c := member(t, 4)
	for n := 1; n < most; n++ {
		s, err := c.Say(n%api.MaxWords + 1)
		if err != nil || s.Word != n%api.MaxWords+1 || s.Clock[4] != n {
			t.Fatalf("the %d-th Say = %v, %v", n, s, err)
		}
	}
	say(t, c, 30, 0, 0, 0, 0, most)
	noSay(t, c, 1, api.ErrFull)
	noSay(t, c, api.MaxWords, api.ErrFull)
	for _, word := range noWords() {
		noSay(t, c, word, api.ErrRange)
	}
	// It still hears.
	take(t, c, step{said(0, 9, 1, 0, 0, 0, most), []int{9}, 0, 0})
	noSay(t, c, 1, api.ErrFull)
	look(t, c, []int{1, 0, 0, 0, most}, 0)
}

func TestTaken(t *testing.T) {
	for _, c := range []struct {
		name  string
		me    int
		steps []step
		clock []int
	}{
		{"of one in order", 0, []step{
			{said(1, 7, 0, 1, 0, 0, 0), []int{7}, 0, 0},
			{said(1, 30, 0, 2, 0, 0, 0), []int{30}, 0, 0},
			{said(1, 7, 0, 3, 0, 0, 0), []int{7}, 0, 0},
		}, []int{0, 3, 0, 0, 0}},
		{"of one from the last to the first", 4, []step{
			{said(0, 1, 4, 0, 0, 0, 0), nil, 0, 1},
			{said(0, 2, 3, 0, 0, 0, 0), nil, 0, 2},
			{said(0, 3, 2, 0, 0, 0, 0), nil, 0, 3},
			{said(0, 4, 1, 0, 0, 0, 0), []int{4, 3, 2, 1}, 0, 0},
		}, []int{4, 0, 0, 0, 0}},
		{"an answer ahead of its question", 2, []step{
			{said(1, 20, 1, 1, 0, 0, 0), nil, 0, 1},
			{said(0, 10, 1, 0, 0, 0, 0), []int{10, 20}, 0, 0},
		}, []int{1, 1, 0, 0, 0}},
		{"an answer behind its question", 2, []step{
			{said(0, 10, 1, 0, 0, 0, 0), []int{10}, 0, 0},
			{said(1, 20, 1, 1, 0, 0, 0), []int{20}, 0, 0},
		}, []int{1, 1, 0, 0, 0}},
		{"answers of answers, from the last to the first", 0, []step{
			{said(4, 4, 0, 1, 1, 1, 1), nil, 0, 1},
			{said(3, 3, 0, 1, 1, 1, 0), nil, 0, 2},
			{said(2, 2, 0, 1, 1, 0, 0), nil, 0, 3},
			{said(1, 1, 0, 1, 0, 0, 0), []int{1, 2, 3, 4}, 0, 0},
		}, []int{0, 1, 1, 1, 1}},
		{"of several between each other", 1, []step{
			{said(0, 11, 2, 0, 0, 0, 0), nil, 0, 1},
			{said(3, 13, 0, 0, 0, 1, 0), []int{13}, 0, 1},
			{said(4, 24, 1, 0, 1, 0, 1), nil, 0, 2},
			{said(3, 23, 2, 0, 0, 2, 0), nil, 0, 3},
			{said(0, 10, 1, 0, 0, 0, 0), []int{10, 11, 23}, 0, 1},
			{said(2, 12, 2, 0, 1, 2, 0), []int{12, 24}, 0, 0},
		}, []int{2, 0, 1, 2, 1}},
		{"followed by some", 0, []step{
			{said(1, 5, 0, 5, 0, 0, 0), nil, 0, 1},
			{said(1, 3, 0, 3, 0, 0, 0), nil, 0, 2},
			{said(2, 9, 0, 4, 1, 0, 0), nil, 0, 3},
			{said(1, 2, 0, 2, 0, 0, 0), nil, 0, 4},
			{said(1, 1, 0, 1, 0, 0, 0), []int{1, 2, 3}, 0, 2},
			{said(1, 4, 0, 4, 0, 0, 0), []int{4, 5, 9}, 0, 0},
		}, []int{0, 5, 1, 0, 0}},
		{"followed by none", 0, []step{
			{said(1, 3, 0, 3, 0, 0, 0), nil, 0, 1},
			{said(2, 2, 0, 2, 1, 0, 0), nil, 0, 2},
			{said(1, 1, 0, 1, 0, 0, 0), []int{1}, 0, 2},
			{said(3, 4, 0, 0, 0, 1, 0), []int{4}, 0, 2},
		}, []int{0, 1, 0, 1, 0}},
		{"several ready at once, as they came", 0, []step{
			{said(4, 14, 0, 1, 0, 0, 1), nil, 0, 1},
			{said(2, 12, 0, 1, 1, 0, 0), nil, 0, 2},
			{said(3, 13, 0, 1, 0, 1, 0), nil, 0, 3},
			{said(1, 11, 0, 1, 0, 0, 0), []int{11, 14, 12, 13}, 0, 0},
		}, []int{0, 1, 1, 1, 1}},
		{"several ready at once, as they came, the other way round", 0, []step{
			{said(3, 13, 0, 1, 0, 1, 0), nil, 0, 1},
			{said(2, 12, 0, 1, 1, 0, 0), nil, 0, 2},
			{said(4, 14, 0, 1, 0, 0, 1), nil, 0, 3},
			{said(1, 11, 0, 1, 0, 0, 0), []int{11, 13, 12, 14}, 0, 0},
		}, []int{0, 1, 1, 1, 1}},
		// The one that came first is not Ready at first: once it is, it goes ahead of one that
		// was Ready all the time.
		{"one that is ready later goes ahead", 0, []step{
			{said(3, 13, 0, 1, 1, 1, 0), nil, 0, 1},
			{said(2, 12, 0, 1, 1, 0, 0), nil, 0, 2},
			{said(4, 14, 0, 1, 0, 0, 1), nil, 0, 3},
			{said(1, 11, 0, 1, 0, 0, 0), []int{11, 12, 13, 14}, 0, 0},
		}, []int{0, 1, 1, 1, 1}},
		{"the order of those that are left", 0, []step{
			{said(4, 14, 0, 2, 0, 0, 1), nil, 0, 1},
			{said(2, 12, 0, 1, 1, 0, 0), nil, 0, 2},
			{said(3, 13, 0, 2, 0, 1, 0), nil, 0, 3},
			{said(1, 11, 0, 1, 0, 0, 0), []int{11, 12}, 0, 2},
			{said(2, 22, 0, 2, 2, 0, 0), nil, 0, 3},
			{said(1, 21, 0, 2, 0, 0, 0), []int{21, 14, 13, 22}, 0, 0},
		}, []int{0, 2, 2, 1, 1}},
		{"an answer to what it did not say itself", 3, []step{
			{said(0, 5, 1, 0, 0, 1, 0), nil, 0, 1},
			{said(1, 6, 0, 1, 0, 0, 0), []int{6}, 0, 1},
		}, []int{0, 1, 0, 0, 0}},
		// Numbers below what was heard hold nothing up.
		{"one that knows less", 0, []step{
			{said(1, 1, 0, 1, 0, 0, 0), []int{1}, 0, 0},
			{said(1, 2, 0, 2, 0, 0, 0), []int{2}, 0, 0},
			{said(2, 3, 0, 0, 1, 0, 0), []int{3}, 0, 0},
			{said(2, 4, 0, 1, 2, 0, 0), []int{4}, 0, 0},
			{said(1, 5, 0, 3, 0, 0, 0), []int{5}, 0, 0},
		}, []int{0, 3, 2, 0, 0}},
		{"the first and the last number", 0, []step{
			{said(4, 30, 0, 0, 0, 0, most), nil, 0, 1},
			{said(1, 1, 0, most, 0, 0, 0), nil, 0, 2},
			{said(2, 2, most, most, most, most, most), nil, 0, 3},
			{said(1, 30, most, 1, 0, 0, 0), nil, 0, 4},
			{said(2, 29, 0, 0, 1, 0, most), nil, 0, 5},
			{said(3, 28, 0, 0, 0, 1, 0), []int{28}, 0, 5},
		}, []int{0, 0, 0, 1, 0}},
	} {
		t.Run(c.name, func(t *testing.T) {
			one := member(t, c.me)
			for _, s := range c.steps {
				take(t, one, s)
			}
			look(t, one, c.clock, c.steps[len(c.steps)-1].waits)
		})
	}
}

func TestUpToTheLastNumber(t *testing.T) {
	c := member(t, 1)
	take(t, c, step{said(2, 30, 0, 0, most, 0, 0), nil, 0, 1})
	take(t, c, step{said(0, 28, 1, 0, most, 0, 0), nil, 0, 2})
	for n := 1; n < most-1; n++ {
		heard, err := c.Take(said(2, n%api.MaxWords+1, 0, 0, n, 0, 0))
		if err != nil || len(heard) != 1 || heard[0] != n%api.MaxWords+1 {
			t.Fatalf("Take of number %d = %v, %v", n, heard, err)
		}
	}
	look(t, c, []int{0, 0, most - 2, 0, 0}, 2)
	take(t, c, step{said(2, 29, 0, 0, most-1, 0, 0), []int{29, 30, 28}, 0, 0})
	look(t, c, []int{1, 0, most, 0, 0}, 0)
	take(t, c, step{said(2, 1, 0, 0, most+1, 0, 0), nil, api.ErrRange, 0})
	take(t, c, step{said(2, 30, 0, 0, most, 0, 0), nil, api.ErrClash, 0})
	say(t, c, 5, 1, 1, most, 0, 0)
}

// What is said makes answers to it Ready; they are heard with the next one that is heard.
func TestSayMakesReady(t *testing.T) {
	c := member(t, 0)
	take(t, c, step{said(1, 11, 1, 1, 0, 0, 0), nil, 0, 1})
	take(t, c, step{said(2, 12, 2, 0, 1, 0, 0), nil, 0, 2})
	say(t, c, 1, 1, 0, 0, 0, 0)
	look(t, c, []int{1, 0, 0, 0, 0}, 2)
	take(t, c, step{said(3, 23, 0, 0, 0, 2, 0), nil, 0, 3})
	take(t, c, step{said(1, 11, 1, 1, 0, 0, 0), nil, api.ErrClash, 3})
	take(t, c, step{said(4, 14, 0, 0, 0, 0, 1), []int{14, 11}, 0, 2})
	say(t, c, 2, 2, 1, 0, 0, 1)
	take(t, c, step{said(3, 13, 0, 0, 0, 1, 0), []int{13, 12, 23}, 0, 0})
	look(t, c, []int{2, 1, 1, 2, 1}, 0)
}

// full is member 0 of which MaxOnWay wait, and that has heard nothing: the words 2, 3 and so on
// of members 1 and 2.
func full(t *testing.T) *Cause {
	t.Helper()
	c := member(t, 0)
	for i := range room {
		clock := make([]int, api.Members)
		clock[1+i%2] = i/2 + 2
		take(t, c, step{said(1+i%2, i%api.MaxWords+1, clock...), nil, 0, i + 1})
	}
	return c
}

// waitsOf is what waits of a member of full.
func waitsOf(who int) []int {
	var words []int
	for i := who - 1; i < room; i += 2 {
		words = append(words, i%api.MaxWords+1)
	}
	return words
}

func TestFull(t *testing.T) {
	for _, c := range []struct {
		name  string
		steps []step
	}{
		{"ready, of one that waits", []step{
			{said(1, 5, 0, 1, 0, 0, 0), append([]int{5}, waitsOf(1)...), 0, room / 2},
			{said(2, 6, 0, 0, 1, 0, 0), append([]int{6}, waitsOf(2)...), 0, 0},
		}},
		{"ready, of another one", []step{
			{said(3, 5, 0, 0, 0, 1, 0), []int{5}, 0, room},
			{said(3, 6, 0, 0, 0, 2, 0), []int{6}, 0, room},
			{said(4, 7, 0, 0, 0, 2, 1), []int{7}, 0, room},
		}},
		{"not the next one", []step{
			{said(1, 5, 0, 100, 0, 0, 0), nil, api.ErrFull, room},
			{said(2, 5, 0, 0, most, 0, 0), nil, api.ErrFull, room},
			{said(3, 5, 0, 0, 0, 2, 0), nil, api.ErrFull, room},
		}},
		{"the next one, but an answer", []step{
			{said(1, 5, 0, 1, 1, 0, 0), nil, api.ErrFull, room},
			{said(1, 5, 1, 1, 0, 0, 0), nil, api.ErrFull, room},
			{said(3, 5, 0, 0, 0, 1, 1), nil, api.ErrFull, room},
			{said(4, 5, 0, 0, 0, 0, 1), []int{5}, 0, room},
			{said(3, 5, 0, 0, 0, 1, 1), []int{5}, 0, room},
		}},
		{"room again", []step{
			{said(3, 5, 0, 0, 0, 2, 0), nil, api.ErrFull, room},
			{said(2, 6, 0, 0, 1, 0, 0), append([]int{6}, waitsOf(2)...), 0, room / 2},
			{said(3, 5, 0, 0, 0, 2, 0), nil, 0, room/2 + 1},
		}},
	} {
		t.Run(c.name, func(t *testing.T) {
			one := full(t)
			for _, s := range c.steps {
				take(t, one, s)
			}
		})
	}
}

func TestJustFull(t *testing.T) {
	c := member(t, 4)
	for n := 2; n <= room+1; n++ {
		take(t, c, step{said(3, 1, 0, 0, 0, n, 0), nil, 0, n - 1})
	}
	take(t, c, step{said(3, 1, 0, 0, 0, room+2, 0), nil, api.ErrFull, room})
	take(t, c, step{said(3, 1, 0, 0, 0, 1, 0), slices.Repeat([]int{1}, room+1), 0, 0})
	take(t, c, step{said(3, 1, 0, 0, 0, room+2, 0), []int{1}, 0, 0})
	look(t, c, []int{0, 0, 0, room + 2, 0}, 0)
}

// One that waits and is Ready still takes its room, until something is heard.
func TestFullOfReady(t *testing.T) {
	c := member(t, 0)
	for n := 1; n <= room; n++ {
		take(t, c, step{said(1, n%api.MaxWords+1, 1, n, 0, 0, 0), nil, 0, n})
	}
	say(t, c, 9, 1, 0, 0, 0, 0)
	take(t, c, step{said(2, 5, 0, 0, 2, 0, 0), nil, api.ErrFull, room})
	heard, err := c.Take(said(2, 5, 0, 0, 1, 0, 0))
	if err != nil || len(heard) != room+1 || heard[0] != 5 || heard[1] != 2 {
		t.Fatalf("Take = %v, %v", heard, err)
	}
	look(t, c, []int{1, room, 1, 0, 0}, 0)
}

// some is member 0, that heard two words of member 1, and of which one more word of it waits.
func some(t *testing.T) *Cause {
	t.Helper()
	c := member(t, 0)
	take(t, c, step{said(1, 10, 0, 1, 0, 0, 0), []int{10}, 0, 0})
	take(t, c, step{said(1, 20, 0, 2, 0, 0, 0), []int{20}, 0, 0})
	take(t, c, step{said(1, 30, 0, 4, 0, 0, 0), nil, 0, 1})
	return c
}

// badClocks are vectors with a fault, and what chapter 1's Check says of each.
func badClocks() []step {
	return []step{
		{said: said(0, 0), errno: api.ErrShape},
		{said: said(0, 0, []int{}...), errno: api.ErrShape},
		{said: said(0, 0, 1), errno: api.ErrShape},
		{said: said(0, 0, 0, 1, 0, 0), errno: api.ErrShape},
		{said: said(0, 0, 0, 1, 0, 0, 0, 0), errno: api.ErrShape},
		{said: said(0, 0, 0, -1, 0, 0), errno: api.ErrShape},
		{said: said(0, 0, 0, most+1, 0, 0, 0, 0), errno: api.ErrShape},
		{said: said(0, 0, make([]int, 100_000)...), errno: api.ErrShape},
		{said: said(0, 0, -1, 1, 1, 1, 1), errno: api.ErrRange},
		{said: said(0, 0, 0, -1, 0, 0, 0), errno: api.ErrRange},
		{said: said(0, 0, 0, 1, 1, 1, -1), errno: api.ErrRange},
		{said: said(0, 0, most+1, 1, 1, 1, 1), errno: api.ErrRange},
		{said: said(0, 0, 0, most+1, 0, 0, 0), errno: api.ErrRange},
		{said: said(0, 0, 0, 1, 1, 1, most+1), errno: api.ErrRange},
		{said: said(0, 0, 0, math.MinInt, 0, 0, 0), errno: api.ErrRange},
		{said: said(0, 0, 0, 1, 1, 1, math.MaxInt), errno: api.ErrRange},
	}
}

// goodClocks are vectors without one: heard, waiting, next, far ones, and one of which all is 0.
func goodClocks() [][]int {
	return [][]int{
		{0, 1, 0, 0, 0}, {0, 3, 0, 0, 0}, {0, 4, 0, 0, 0}, {0, 100, 0, 0, 0},
		{1, 1, 1, 1, 1}, {0, 0, 0, 0, 0}, {most, most, most, most, most},
	}
}

// ones are those on which faults are tried: a new one, one that moves, a full one. All are member 0.
func ones(t *testing.T) []*Cause {
	t.Helper()
	return []*Cause{member(t, 0), some(t), full(t)}
}

func TestRangeAheadOfAll(t *testing.T) {
	for _, c := range ones(t) {
		waits := c.Waits()
		clocks := goodClocks()
		for _, bad := range badClocks() {
			clocks = append(clocks, bad.said.Clock)
		}
		for _, clock := range clocks {
			for _, who := range strangers() {
				for _, word := range append(noWords(), 1, api.MaxWords) {
					take(t, c, step{said(who, word, clock...), nil, api.ErrRange, waits})
				}
			}
			for who := range api.Members {
				for _, word := range noWords() {
					take(t, c, step{said(who, word, clock...), nil, api.ErrRange, waits})
				}
			}
		}
	}
}

// Of each member, its own among them, a fault of the Clock is told ahead of all that hangs on it.
func TestClockChecked(t *testing.T) {
	for _, c := range ones(t) {
		waits := c.Waits()
		for _, bad := range badClocks() {
			for who := range api.Members {
				for _, word := range []int{1, api.MaxWords} {
					take(t, c, step{said(who, word, bad.said.Clock...), nil, bad.errno, waits})
				}
			}
		}
	}
}

func TestItsOwn(t *testing.T) {
	for _, c := range ones(t) {
		waits := c.Waits()
		for _, clock := range goodClocks() {
			take(t, c, step{said(0, 7, clock...), nil, api.ErrShape, waits})
		}
	}
	for me := range api.Members {
		c := member(t, me)
		clock := make([]int, api.Members)
		// Its number is 0: that it is its own is named ahead of it.
		take(t, c, step{said(me, 7, clock...), nil, api.ErrShape, 0})
		s, err := c.Say(7)
		if err != nil {
			t.Fatal(err)
		}
		take(t, c, step{s, nil, api.ErrShape, 0})
		clock[me] = 2
		take(t, c, step{said(me, 7, clock...), nil, api.ErrShape, 0})
	}
}

func TestNumberOfWhoIsNone(t *testing.T) {
	for _, c := range ones(t) {
		waits := c.Waits()
		for who := 1; who < api.Members; who++ {
			for _, others := range []int{0, 1, most} {
				clock := slices.Repeat([]int{others}, api.Members)
				clock[who] = 0
				take(t, c, step{said(who, 7, clock...), nil, api.ErrRange, waits})
			}
		}
	}
}

func TestClash(t *testing.T) {
	c := some(t)
	for _, s := range []step{
		{said(1, 10, 0, 1, 0, 0, 0), nil, api.ErrClash, 1},
		{said(1, 11, 0, 1, 0, 0, 0), nil, api.ErrClash, 1},
		{said(1, 10, 9, 1, 9, 9, 9), nil, api.ErrClash, 1},
		{said(1, 20, 0, 2, 0, 0, 0), nil, api.ErrClash, 1},
		{said(1, 21, 0, 2, 0, 0, 0), nil, api.ErrClash, 1},
		{said(1, 30, 0, 4, 0, 0, 0), nil, api.ErrClash, 1},
		{said(1, 29, 0, 4, 0, 0, 0), nil, api.ErrClash, 1},
		{said(1, 30, 0, 4, 1, 0, 0), nil, api.ErrClash, 1},
		// What waits is the first one that came, and those refused are as if they never came.
		{said(1, 25, 0, 3, 0, 0, 0), []int{25, 30}, 0, 0},
		{said(1, 30, 0, 4, 0, 0, 0), nil, api.ErrClash, 0},
		{said(1, 1, 0, 3, 0, 0, 0), nil, api.ErrClash, 0},
		// The numbers of one member say nothing of another one's.
		{said(2, 1, 0, 0, 4, 0, 0), nil, 0, 1},
		{said(2, 1, 0, 0, 1, 0, 0), []int{1}, 0, 1},
	} {
		take(t, c, s)
	}
}

// One that waits for a question of another member is the next one of its own: it clashes as well.
func TestClashWithTheNextOne(t *testing.T) {
	c := member(t, 0)
	take(t, c, step{said(1, 10, 0, 1, 1, 0, 0), nil, 0, 1})
	take(t, c, step{said(1, 10, 0, 1, 1, 0, 0), nil, api.ErrClash, 1})
	take(t, c, step{said(1, 11, 0, 1, 0, 0, 0), nil, api.ErrClash, 1})
	take(t, c, step{said(2, 20, 0, 0, 1, 0, 0), []int{20, 10}, 0, 0})
}

func TestClashAheadOfFull(t *testing.T) {
	c := full(t)
	take(t, c, step{said(3, 5, 0, 0, 0, 1, 0), []int{5}, 0, room})
	for _, word := range []int{5, 6} {
		take(t, c, step{said(3, word, 0, 0, 0, 1, 0), nil, api.ErrClash, room})
		take(t, c, step{said(3, word, 0, 0, 0, 1, 1), nil, api.ErrClash, room})
	}
	for i := range room {
		clock := make([]int, api.Members)
		clock[1+i%2] = i/2 + 2
		take(t, c, step{said(1+i%2, 1, clock...), nil, api.ErrClash, room})
	}
}

func TestRefusedChangesNothing(t *testing.T) {
	c, same := full(t), full(t)
	for _, s := range []step{
		{said(-1, 1, 0, 1, 0, 0, 0), nil, api.ErrRange, room},
		{said(1, 0, 0, 1, 0, 0, 0), nil, api.ErrRange, room},
		{said(1, 1, 0, 1, 0, 0), nil, api.ErrShape, room},
		{said(1, 1, 0, 1, 0, 0, -1), nil, api.ErrRange, room},
		{said(0, 1, 1, 0, 0, 0, 0), nil, api.ErrShape, room},
		{said(1, 1, 0, 0, 0, 0, 0), nil, api.ErrRange, room},
		{said(1, 30, 0, 2, 0, 0, 0), nil, api.ErrClash, room},
		{said(1, 30, 0, 50, 0, 0, 0), nil, api.ErrFull, room},
		{said(3, 30, 0, 0, 0, 2, 0), nil, api.ErrFull, room},
	} {
		take(t, c, s)
	}
	noSay(t, c, 0, api.ErrRange)
	noSay(t, c, api.MaxWords+1, api.ErrRange)
	// Whatever comes now, both answer alike: the words refused are not among what waits.
	for _, s := range []api.Said{
		said(3, 9, 0, 0, 0, 1, 0), said(1, 8, 0, 1, 0, 0, 0), said(3, 7, 0, 0, 0, 2, 0), said(1, 6, 0, 50, 0, 0, 0),
		said(2, 5, 0, 0, 1, 0, 0), said(1, 4, 0, 22, 0, 0, 0), said(1, 3, 0, 50, 0, 0, 0),
	} {
		got, err := c.Take(s)
		want, wantErr := same.Take(s)
		if !slices.Equal(got, want) || plain.Told(err) != plain.Told(wantErr) {
			t.Errorf("Take(%v) = %v, %v, want %v, %v", s, got, err, want, wantErr)
		}
		look(t, c, same.Clock(), same.Waits())
	}
}

// roomy is what was said, with memory behind its Clock, and all of that memory.
func roomy(who, word int, clock ...int) (api.Said, []int) {
	whole := append(slices.Clone(clock), 77, -77, 777)
	return said(who, word, whole[:len(clock)]...), whole
}

func TestArgumentsAreNeitherWrittenNorKept(t *testing.T) {
	c := member(t, 0)
	for _, s := range []step{
		{said(1, 20, 0, 2, 0, 0, 0), nil, 0, 1},
		{said(2, 30, 0, 2, 1, 0, 0), nil, 0, 2},
		{said(3, 5, 0, 0, 0, 1, 0), []int{5}, 0, 2},
		{said(1, 9, 0, 2, 0, 0, 0), nil, api.ErrClash, 2},
		{said(1, 9, 0, 2, 0, 0), nil, api.ErrShape, 2},
		{said(1, 10, 0, 1, 0, 0, 0), []int{10, 20, 30}, 0, 0},
	} {
		one, whole := roomy(s.said.Who, s.said.Word, s.said.Clock...)
		was := slices.Clone(whole)
		take(t, c, step{one, s.heard, s.errno, s.waits})
		if !slices.Equal(whole, was) {
			t.Fatalf("Take wrote into its argument: %v, was %v", whole, was)
		}
		// Were it kept, what waits would be Ready now, or never.
		for i := range whole {
			whole[i] = len(s.heard)
		}
	}
	look(t, c, []int{0, 2, 1, 1, 0}, 0)
}

func TestListsAreTheCallers(t *testing.T) {
	c := member(t, 0)
	var lists [][]int
	keep := func(l []int) {
		lists = append(lists, l[:cap(l)])
	}
	for _, s := range []api.Said{
		said(1, 1, 0, 1, 0, 0, 0), said(1, 3, 0, 3, 0, 0, 0), said(2, 4, 0, 3, 1, 0, 0),
		said(1, 2, 0, 2, 0, 0, 0), said(4, 6, 3, 3, 1, 0, 2), said(4, 5, 3, 3, 1, 0, 1),
	} {
		mine, err := c.Say(s.Word)
		if err != nil {
			t.Fatal(err)
		}
		heard, err := c.Take(s)
		if err != nil {
			t.Fatal(err)
		}
		keep(s.Clock)
		keep(mine.Clock)
		keep(heard)
		keep(c.Clock())
	}
	for i, l := range lists {
		for at := range l {
			l[at] = -1 - i
		}
	}
	for i, l := range lists {
		if slices.ContainsFunc(l, func(n int) bool { return n != -1-i }) {
			t.Errorf("list %d shares memory with another one: %v", i, l)
		}
	}
	look(t, c, []int{6, 3, 1, 0, 2}, 0)
	say(t, c, 7, 7, 3, 1, 0, 2)
	take(t, c, step{said(3, 8, 7, 3, 1, 1, 2), []int{8}, 0, 0})
}

// came is C1 told in another way: all that came, in a list, each with whether it was heard, and
// the vector counted anew each time.
type came struct {
	me, own int
	all     []api.Said
	heard   []bool
}

func (c *came) clock() []int {
	clock := make([]int, api.Members)
	clock[c.me] = c.own
	for i, s := range c.all {
		if c.heard[i] {
			clock[s.Who]++
		}
	}
	return clock
}

func (c *came) waits() int {
	waits := 0
	for _, is := range c.heard {
		if !is {
			waits++
		}
	}
	return waits
}

func (c *came) ready(s api.Said) bool {
	clock := c.clock()
	clock[s.Who]++
	for who, n := range s.Clock {
		if n > clock[who] || who == s.Who && n != clock[who] {
			return false
		}
	}
	return true
}

func (c *came) fault(s api.Said) api.Errno {
	if s.Who < 0 || s.Who >= api.Members || s.Word < 1 || s.Word > api.MaxWords {
		return api.ErrRange
	}
	if len(s.Clock) != api.Members {
		return api.ErrShape
	}
	if slices.Min(s.Clock) < 0 || slices.Max(s.Clock) > most {
		return api.ErrRange
	}
	if s.Who == c.me {
		return api.ErrShape
	}
	if s.Clock[s.Who] == 0 {
		return api.ErrRange
	}
	for _, other := range c.all {
		if other.Who == s.Who && other.Clock[s.Who] == s.Clock[s.Who] {
			return api.ErrClash
		}
	}
	if c.waits() >= room && !c.ready(s) {
		return api.ErrFull
	}
	return 0
}

func (c *came) take(s api.Said) ([]int, api.Errno) {
	if errno := c.fault(s); errno != 0 {
		return nil, errno
	}
	now := c.ready(s)
	c.all, c.heard = append(c.all, s), append(c.heard, now)
	if !now {
		return nil, 0
	}
	words := []int{s.Word}
	for i := 0; i < len(c.all); i++ {
		if !c.heard[i] && c.ready(c.all[i]) {
			c.heard[i] = true
			words = append(words, c.all[i].Word)
			i = -1
		}
	}
	return words, 0
}

// hold lets words come to a new one, and holds each answer against came. What has the Who -1 and
// no Clock is not taken, but said.
func hold(t *testing.T, me int, row []api.Said) {
	t.Helper()
	one, c := member(t, me), &came{me: me}
	for _, s := range row {
		if s.Who == -1 && s.Clock == nil {
			c.own++
			say(t, one, s.Word, c.clock()...)
			continue
		}
		heard, errno := c.take(s)
		got, err := one.Take(s)
		if !slices.Equal(got, heard) || plain.Told(err) != errno {
			t.Fatalf("of %v: Take(%v) = %v, %v, want %v, %v", row, s, got, err, heard, errno)
		}
		if !slices.Equal(one.Clock(), c.clock()) || one.Waits() != c.waits() {
			t.Fatalf("of %v: behind %v: Clock %v, Waits %d, want %v, %d", row, s, one.Clock(), one.Waits(), c.clock(), c.waits())
		}
	}
}

func TestEveryShortRow(t *testing.T) {
	kinds := []api.Said{{Who: -1}, said(1, 0, 0, 0, 1, 0, 0)}
	for own := range 2 {
		for n := range 2 {
			for other := range 3 {
				kinds = append(kinds, said(1, 0, own, n+1, other, 0, 0), said(2, 0, own, other, n+1, 0, 0))
			}
		}
	}
	var grow func(row []api.Said)
	grow = func(row []api.Said) {
		if len(row) == 4 {
			hold(t, 0, row)
			return
		}
		for _, k := range kinds {
			k.Word = len(row) + 1
			grow(append(slices.Clone(row), k))
		}
	}
	grow(nil)
}

// dice are numbers that look thrown, and are the same each time.
type dice uint64

func (d *dice) below(n int) int {
	*d = *d*6364136223846793005 + 1442695040888963407
	return int(uint64(*d>>33) % uint64(n))
}

// thrown is what could come: mostly a sound one, of which the numbers are near or far.
func (d *dice) thrown(me, far int) api.Said {
	who := d.below(api.Members)
	if who == me && d.below(4) != 0 {
		who = (who + 1) % api.Members
	}
	clock := make([]int, api.Members)
	for other := range clock {
		if d.below(3) == 0 {
			clock[other] = d.below(far)
		}
	}
	clock[who] = d.below(far) + 1
	wrong := []int{-1, 0, api.Members, api.MaxWords + 1, most + 1}[d.below(5)]
	s := said(who, d.below(api.MaxWords)+1, clock...)
	switch d.below(60) {
	case 0:
		s.Who = wrong
	case 1:
		s.Word = wrong
	case 2:
		s.Clock[d.below(api.Members)] = wrong
	case 3:
		s.Clock = s.Clock[:d.below(api.Members)]
	}
	return s
}

func TestLongRows(t *testing.T) {
	d := dice(6)
	for range 300 {
		me, far := d.below(api.Members), d.below(30)+2
		var row []api.Said
		for range 120 {
			if d.below(6) == 0 {
				row = append(row, api.Said{Who: -1, Word: d.below(api.MaxWords) + 1})
				continue
			}
			row = append(row, d.thrown(me, far))
		}
		hold(t, me, row)
	}
}

// group is some that say words to each other; what is said is on its way until it comes.
type group struct {
	members []*Cause
	onWay   [][]api.Said // to each
	history []api.Event
}

func (g *group) say(t *testing.T, who, word int) {
	t.Helper()
	s, err := g.members[who].Say(word)
	if err != nil {
		t.Fatal(err)
	}
	g.history = append(g.history, api.Event{Who: who, What: api.Say, Word: word})
	for other := range g.members {
		if other != who {
			g.onWay[other] = append(g.onWay[other], s)
		}
	}
}

func (g *group) give(t *testing.T, to, i int) {
	t.Helper()
	heard, err := g.members[to].Take(g.onWay[to][i])
	if err != nil {
		t.Fatal(err)
	}
	g.onWay[to] = slices.Delete(g.onWay[to], i, i+1)
	for _, word := range heard {
		g.history = append(g.history, api.Event{Who: to, What: api.Hear, Word: word})
	}
}

// Whatever the order in which words come, no member hears an answer ahead of its question, and at
// the end all have heard all.
func TestGroupsHearByCause(t *testing.T) {
	d := dice(7)
	for range 300 {
		n := d.below(api.Members-1) + 2
		words := min(api.MaxEvents/n, api.MaxWords)
		g := &group{onWay: make([][]api.Said, n)}
		for me := range n {
			g.members = append(g.members, member(t, me))
		}
		for word := 1; word <= words; {
			who := d.below(n)
			if len(g.onWay[who]) > 0 && d.below(3) != 0 {
				g.give(t, who, d.below(len(g.onWay[who])))
				continue
			}
			g.say(t, who, word)
			word++
		}
		for who := range n {
			for len(g.onWay[who]) > 0 {
				g.give(t, who, d.below(len(g.onWay[who])))
			}
		}
		f, err := faces.Of(g.history)
		if err != nil || !f.Fifo || !f.Causal {
			t.Fatalf("of %v: Faces %v, %v", g.history, f, err)
		}
		for _, c := range g.members {
			look(t, c, g.members[0].Clock(), 0)
		}
	}
}
