package clock

import (
	"math"
	"slices"
	"testing"

	"mootbell/api"
	"mootbell/history"
	"mootbell/plain"
	"mootbell/vector"
)

func think(who int) api.Event { return api.Event{Who: who, What: api.Think} }

func say(who, word int) api.Event { return api.Event{Who: who, What: api.Say, Word: word} }

func hear(who, word int) api.Event { return api.Event{Who: who, What: api.Hear, Word: word} }

// thoughts are as many events as one likes, all of them right.
func thoughts(many int) []api.Event {
	h := make([]api.Event, many)
	for at := range h {
		h[at] = think(at % api.Members)
	}
	return h
}

// passed on from member to member and back, each event over the one ahead of it.
func passed() []api.Event {
	var h []api.Event
	for word := range api.MaxEvents / 2 {
		h = append(h, say(word%api.Members, word+1), hear((word+1)%api.Members, word+1))
	}
	return h
}

// told is a history, and what is asked for of it.
type told struct {
	name    string
	h       []api.Event
	vectors [][]int
	numbers []int
	order   []int
}

// talk has all kinds of events, words that are passed on, and a member that hears nothing.
var talk = told{
	"talk",
	[]api.Event{
		think(0),
		say(0, 7),
		say(3, 1),
		hear(1, 7),
		say(1, 30),
		hear(2, 1),
		hear(2, 30),
		think(4),
		hear(0, 30),
		say(4, 2),
	},
	[][]int{
		{1, 0, 0, 0, 0},
		{2, 0, 0, 0, 0},
		{0, 0, 0, 1, 0},
		{2, 1, 0, 0, 0},
		{2, 2, 0, 0, 0},
		{0, 0, 1, 1, 0},
		{2, 2, 2, 1, 0},
		{0, 0, 0, 0, 1},
		{3, 2, 0, 0, 0},
		{0, 0, 0, 0, 2},
	},
	[]int{1, 2, 1, 3, 4, 2, 5, 1, 5, 2},
	[]int{0, 2, 7, 1, 5, 9, 3, 4, 8, 6},
}

func ordinary() []told {
	return []told{
		talk,
		{"nil", nil, nil, nil, nil},
		{"no event", []api.Event{}, nil, nil, nil},
		{"one thought", []api.Event{think(4)}, [][]int{{0, 0, 0, 0, 1}}, []int{1}, []int{0}},
		{"one word", []api.Event{say(2, api.MaxWords)}, [][]int{{0, 0, 1, 0, 0}}, []int{1}, []int{0}},
		{
			"one member alone",
			[]api.Event{think(1), say(1, 1), think(1)},
			[][]int{{0, 1, 0, 0, 0}, {0, 2, 0, 0, 0}, {0, 3, 0, 0, 0}},
			[]int{1, 2, 3},
			[]int{0, 1, 2},
		},
		{
			"neither ahead of the other, the later member first",
			[]api.Event{think(4), think(3), think(2), think(1), think(0)},
			[][]int{{0, 0, 0, 0, 1}, {0, 0, 0, 1, 0}, {0, 0, 1, 0, 0}, {0, 1, 0, 0, 0}, {1, 0, 0, 0, 0}},
			[]int{1, 1, 1, 1, 1},
			[]int{4, 3, 2, 1, 0},
		},
		{
			"heard by several",
			[]api.Event{think(2), say(2, 5), hear(4, 5), hear(0, 5), hear(3, 5), hear(1, 5)},
			[][]int{{0, 0, 1, 0, 0}, {0, 0, 2, 0, 0}, {0, 0, 2, 0, 1}, {1, 0, 2, 0, 0}, {0, 0, 2, 1, 0}, {0, 1, 2, 0, 0}},
			[]int{1, 2, 3, 3, 3, 3},
			[]int{0, 1, 3, 5, 4, 2},
		},
		{
			"heard late: the member's own number is greater",
			[]api.Event{say(0, 1), think(1), think(1), think(1), hear(1, 1)},
			[][]int{{1, 0, 0, 0, 0}, {0, 1, 0, 0, 0}, {0, 2, 0, 0, 0}, {0, 3, 0, 0, 0}, {1, 4, 0, 0, 0}},
			[]int{1, 1, 2, 3, 4},
			[]int{0, 1, 2, 3, 4},
		},
		{
			"heard early: the number of what was said is greater",
			[]api.Event{think(3), think(3), say(3, 1), think(0), hear(0, 1), think(0)},
			[][]int{{0, 0, 0, 1, 0}, {0, 0, 0, 2, 0}, {0, 0, 0, 3, 0}, {1, 0, 0, 0, 0}, {2, 0, 0, 3, 0}, {3, 0, 0, 3, 0}},
			[]int{1, 2, 3, 1, 4, 5},
			[]int{3, 0, 1, 2, 4, 5},
		},
		{
			"the later word heard first",
			[]api.Event{say(0, 9), say(0, 3), hear(1, 3), hear(1, 9)},
			[][]int{{1, 0, 0, 0, 0}, {2, 0, 0, 0, 0}, {2, 1, 0, 0, 0}, {2, 2, 0, 0, 0}},
			[]int{1, 2, 3, 4},
			[]int{0, 1, 2, 3},
		},
		{
			"what the sayer did behind what it said is not known",
			[]api.Event{say(0, 1), think(0), think(0), hear(1, 1)},
			[][]int{{1, 0, 0, 0, 0}, {2, 0, 0, 0, 0}, {3, 0, 0, 0, 0}, {1, 1, 0, 0, 0}},
			[]int{1, 2, 3, 2},
			[]int{0, 1, 3, 2},
		},
	}
}

func sameVectors(a, b [][]int) bool { return slices.EqualFunc(a, b, slices.Equal) }

// hold what comes of a history against what is asked for.
func hold(t *testing.T, want told) {
	t.Helper()
	if v, err := Vectors(want.h); err != nil || !sameVectors(v, want.vectors) {
		t.Errorf("%s: Vectors = %v, %v, want %v", want.name, v, err, want.vectors)
	}
	if n, err := Numbers(want.h); err != nil || !slices.Equal(n, want.numbers) {
		t.Errorf("%s: Numbers = %v, %v, want %v", want.name, n, err, want.numbers)
	}
	if o, err := Order(want.h); err != nil || !slices.Equal(o, want.order) {
		t.Errorf("%s: Order = %v, %v, want %v", want.name, o, err, want.order)
	}
}

func TestOrdinary(t *testing.T) {
	for _, want := range ordinary() {
		hold(t, want)
	}
}

// TestLongest has MaxEvents events: all apart, and each over the one ahead of it.
func TestLongest(t *testing.T) {
	apart := told{name: "thoughts", h: thoughts(api.MaxEvents)}
	chain := told{name: "passed on", h: passed()}
	var done [api.Members]int
	for at := range api.MaxEvents {
		v := make([]int, api.Members)
		v[at%api.Members] = at/api.Members + 1
		apart.vectors = append(apart.vectors, v)
		apart.numbers = append(apart.numbers, at/api.Members+1)
		apart.order = append(apart.order, at)

		done[chain.h[at].Who]++
		chain.vectors = append(chain.vectors, slices.Clone(done[:]))
		chain.numbers = append(chain.numbers, at+1)
		chain.order = append(chain.order, at)
	}
	hold(t, apart)
	hold(t, chain)

	back := told{name: "thoughts, the last member first", h: thoughts(api.MaxEvents)}
	slices.Reverse(back.h)
	for at := range api.MaxEvents {
		v := make([]int, api.Members)
		v[api.Members-1-at%api.Members] = at/api.Members + 1
		back.vectors = append(back.vectors, v)
		back.numbers = append(back.numbers, at/api.Members+1)
		back.order = append(back.order, at/api.Members*api.Members+api.Members-1-at%api.Members)
	}
	hold(t, back)
}

// refuse tells whether all refuse a history with one error, and answer nothing beside it.
func refuse(t *testing.T, name string, h []api.Event, want api.Errno) {
	t.Helper()
	if v, err := Vectors(h); plain.Told(err) != want || v != nil {
		t.Errorf("%s: Vectors = %v, %v, want nil, %v", name, v, err, want)
	}
	if n, err := Numbers(h); plain.Told(err) != want || n != nil {
		t.Errorf("%s: Numbers = %v, %v, want nil, %v", name, n, err, want)
	}
	if o, err := Order(h); plain.Told(err) != want || o != nil {
		t.Errorf("%s: Order = %v, %v, want nil, %v", name, o, err, want)
	}
}

func TestFaults(t *testing.T) {
	for _, f := range []struct {
		name string
		h    []api.Event
		want api.Errno
	}{
		{"one too many", thoughts(api.MaxEvents + 1), api.ErrFull},
		{"far too many", thoughts(1_000_000), api.ErrFull},
		{"too many, and the first is wrong", append([]api.Event{hear(9, 9)}, thoughts(api.MaxEvents)...), api.ErrFull},

		{"no member below", []api.Event{think(-1)}, api.ErrRange},
		{"no member above", []api.Event{think(0), think(api.Members)}, api.ErrRange},
		{"far below", []api.Event{say(math.MinInt, 1)}, api.ErrRange},
		{"far above", []api.Event{say(0, 1), hear(math.MaxInt, 1)}, api.ErrRange},
		{"an event of zeros", []api.Event{{}}, api.ErrRange},
		{"no such thing to do", []api.Event{{Who: 0, What: 4, Word: 1}}, api.ErrRange},
		{"nor below", []api.Event{{Who: 0, What: -1, Word: 0}}, api.ErrRange},
		{"a thought with a word", []api.Event{{Who: 0, What: api.Think, Word: 1}}, api.ErrRange},
		{"no word said", []api.Event{say(0, 0)}, api.ErrRange},
		{"a word below", []api.Event{say(0, -1)}, api.ErrRange},
		{"a word above", []api.Event{say(0, api.MaxWords+1)}, api.ErrRange},
		{"no word heard", []api.Event{hear(0, 0)}, api.ErrRange},
		{"a word above heard", []api.Event{hear(0, api.MaxWords+1)}, api.ErrRange},
		{"the last one wrong", append(thoughts(api.MaxEvents-1), think(5)), api.ErrRange},

		{"said twice by one", []api.Event{say(0, 1), say(0, 1)}, api.ErrClash},
		{"said twice by two", []api.Event{say(0, 1), say(1, 1)}, api.ErrClash},
		{"heard twice by one", []api.Event{say(0, 1), hear(1, 1), hear(1, 1)}, api.ErrClash},

		{"heard, never said", []api.Event{hear(1, 1)}, api.ErrNone},
		{"heard ahead of being said", []api.Event{hear(1, 1), say(0, 1)}, api.ErrNone},
		{"another word said", []api.Event{say(0, 1), hear(1, 2)}, api.ErrNone},

		{"heard by who said it", []api.Event{say(0, 1), hear(0, 1)}, api.ErrShape},
		{"heard by another one too", []api.Event{say(4, 30), hear(1, 30), hear(4, 30)}, api.ErrShape},

		{"the first of two faults", []api.Event{hear(1, 1), think(-1)}, api.ErrNone},
		{"the first of three", []api.Event{say(0, 1), hear(0, 1), say(1, 1), think(9)}, api.ErrShape},
		{"two faults of one event", []api.Event{say(0, 1), say(api.Members, 1)}, api.ErrRange},
	} {
		refuse(t, f.name, f.h, f.want)
	}
}

// counted makes the vectors of a history by counting what history tells to be Before.
func counted(t *testing.T, h []api.Event) [][]int {
	t.Helper()
	var all [][]int
	for k, e := range h {
		v := make([]int, api.Members)
		v[e.Who]++
		for i, f := range h {
			if is, err := history.Before(h, i, k); err != nil {
				t.Fatalf("%v: Before(%d, %d): %v", h, i, k, err)
			} else if is {
				v[f.Who]++
			}
		}
		all = append(all, v)
	}
	return all
}

// longestWay tells the number of the k-th event: how many stand in the longest row of events,
// each straight ahead of the next, that ends with it.
func longestWay(h []api.Event, k int) int {
	most := 0
	for i := range h[:k] {
		own := h[i].Who == h[k].Who
		told := h[i].What == api.Say && h[k].What == api.Hear && h[i].Word == h[k].Word
		if own || told {
			most = max(most, longestWay(h, i))
		}
	}
	return most + 1
}

// pickedOut orders events by taking, again and again, the least that is left.
func pickedOut(h []api.Event, numbers []int) []int {
	var order []int
	for range h {
		least := -1
		for at := range h {
			if slices.Contains(order, at) {
				continue
			}
			if least < 0 || numbers[at] < numbers[least] || numbers[at] == numbers[least] && h[at].Who < h[least].Who {
				least = at
			}
		}
		order = append(order, least)
	}
	return order
}

// TestAllShort holds every short history of three members and two words against the plain ways above.
func TestAllShort(t *testing.T) {
	const longest = 5
	var events []api.Event
	for _, who := range []int{4, 0, 2} {
		events = append(events, think(who), say(who, 1), say(who, 2), hear(who, 1), hear(who, 2))
	}
	right := 0
	var grow func(h []api.Event)
	grow = func(h []api.Event) {
		if _, err := history.Check(h); err != nil {
			refuse(t, "short", h, plain.Told(err))
			return
		}
		right++
		var numbers []int
		for k := range h {
			numbers = append(numbers, longestWay(h, k))
		}
		hold(t, told{"short", h, counted(t, h), numbers, pickedOut(h, numbers)})
		if t.Failed() {
			t.Fatalf("history %v", h)
		}
		if len(h) == longest {
			return
		}
		for _, e := range events {
			grow(append(slices.Clone(h), e))
		}
	}
	grow(nil)
	if right < 1000 {
		t.Errorf("only %d histories were right", right)
	}
}

// TestAheadJustIfBelow: vectors know what is ahead of what; numbers and the order never tell
// against it.
func TestAheadJustIfBelow(t *testing.T) {
	for _, c := range append(ordinary(), told{h: passed()}, told{h: thoughts(api.MaxEvents)}) {
		vectors, err := Vectors(c.h)
		numbers, bad := Numbers(c.h)
		order, ill := Order(c.h)
		if err != nil || bad != nil || ill != nil {
			t.Fatalf("%s: %v, %v, %v", c.name, err, bad, ill)
		}
		for i := range c.h {
			for k := range c.h {
				is, err := history.Before(c.h, i, k)
				below, bad := vector.Leq(vectors[i], vectors[k])
				if err != nil || bad != nil || is != (below && i != k) {
					t.Errorf("%s: Before(%d, %d) is %v, below is %v (%v, %v)", c.name, i, k, is, below, err, bad)
				}
				if is && (numbers[i] >= numbers[k] || slices.Index(order, i) >= slices.Index(order, k)) {
					t.Errorf("%s: %d is ahead of %d, but numbers are %v, order %v", c.name, i, k, numbers, order)
				}
			}
		}
	}
}

func TestArgumentStaysAsItIs(t *testing.T) {
	whole := append(slices.Clone(talk.h), think(-7), say(99, 99), hear(1, 1))
	was := slices.Clone(whole)
	want := talk
	want.h = whole[:len(talk.h)]
	hold(t, want)
	if !slices.Equal(whole, was) {
		t.Errorf("the history became %v", whole)
	}
	wrong := []api.Event{say(0, 1), hear(1, 1), hear(1, 1), think(9)}
	was = slices.Clone(wrong)
	refuse(t, "wrong", wrong[:3], api.ErrClash)
	if !slices.Equal(wrong, was) {
		t.Errorf("the wrong history became %v", wrong)
	}
}

// spoil writes over all of a list, and over what lies behind its length.
func spoil(list []int) {
	list = list[:cap(list)]
	for i := range list {
		list[i] = -5
	}
}

func TestAnswersAreFresh(t *testing.T) {
	h := slices.Clone(talk.h)
	again := talk
	again.h = h
	for at := range h {
		vectors, err := Vectors(h)
		if err != nil {
			t.Fatal(err)
		}
		spoil(vectors[at])
		for other, v := range vectors {
			if other != at && !slices.Equal(v, talk.vectors[other]) {
				t.Errorf("writing into vector %d changed vector %d to %v", at, other, v)
			}
		}
	}
	numbers, bad := Numbers(h)
	order, ill := Order(h)
	if bad != nil || ill != nil {
		t.Fatal(bad, ill)
	}
	spoil(numbers)
	if !slices.Equal(order, talk.order) {
		t.Errorf("writing into the numbers changed the order to %v", order)
	}
	spoil(order)
	if !slices.Equal(h, talk.h) {
		t.Errorf("writing into the answers changed the history to %v", h)
	}
	hold(t, again)
}

func TestHistoryIsNotKept(t *testing.T) {
	h := slices.Clone(talk.h)
	vectors, err := Vectors(h)
	numbers, bad := Numbers(h)
	order, ill := Order(h)
	if err != nil || bad != nil || ill != nil {
		t.Fatal(err, bad, ill)
	}
	for at := range h {
		h[at] = think(0)
	}
	if !sameVectors(vectors, talk.vectors) || !slices.Equal(numbers, talk.numbers) || !slices.Equal(order, talk.order) {
		t.Errorf("writing into the history changed an answer: %v, %v, %v", vectors, numbers, order)
	}
	hold(t, talk)
}
