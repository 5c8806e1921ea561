package faces

import (
	"math"
	"slices"
	"testing"

	"mootbell/api"
	"mootbell/history"
	"mootbell/plain"
)

func think(who int) api.Event { return api.Event{Who: who, What: api.Think} }

func say(who, word int) api.Event { return api.Event{Who: who, What: api.Say, Word: word} }

func hear(who, word int) api.Event { return api.Event{Who: who, What: api.Hear, Word: word} }

// thoughts are as many events as one likes, all of them right.
func thoughts(many int) []api.Event {
	h := make([]api.Event, many)
	for at := range h {
		h[at] = think(at % api.Members)
	}
	return h
}

// rounds are MaxEvents events: member 0 says words, and member 1 hears all of them, as they were
// said, but for the last two, which it may hear the wrong way round.
func rounds(wrong bool) told {
	c := told{name: "rounds", is: api.Faces{Fifo: !wrong, Causal: !wrong, Total: !wrong}}
	words := make([]int, api.MaxWords)
	for at := range words {
		words[at] = at + 1
		c.h = append(c.h, say(0, at+1))
	}
	c.heard[0] = slices.Clone(words)
	if wrong {
		words[api.MaxWords-2], words[api.MaxWords-1] = words[api.MaxWords-1], words[api.MaxWords-2]
	}
	for _, word := range words {
		c.h = append(c.h, hear(1, word))
	}
	c.heard[1] = words
	return c
}

// told is a history, and what is asked for of it.
type told struct {
	name  string
	h     []api.Event
	heard [api.Members][]int
	is    api.Faces
}

var (
	all       = api.Faces{Fifo: true, Causal: true, Total: true}
	none      = api.Faces{}
	noTotal   = api.Faces{Fifo: true, Causal: true}
	fifoAlone = api.Faces{Fifo: true}
	noCausal  = api.Faces{Fifo: true, Total: true}
	justTotal = api.Faces{Total: true}
)

// talk has all kinds of events, members that only said, only heard, did both and did neither,
// and none of the three faces.
var talk = told{
	"talk",
	[]api.Event{
		think(4),
		say(0, 7),
		say(0, 3),
		hear(1, 3),
		think(1),
		say(1, 30),
		hear(1, 7),
		hear(2, 30),
		hear(2, 7),
		hear(2, 3),
		say(0, 1),
	},
	[api.Members][]int{{7, 3, 1}, {3, 30, 7}, {30, 7, 3}, nil, nil},
	none,
}

func ordinary() []told {
	return slices.Concat([]told{talk, rounds(false), rounds(true)}, quiet(), ofOneMember(), ofSeveral(), apart())
}

// quiet ones: in them no order can be broken.
func quiet() []told {
	return []told{
		{"nil", nil, [api.Members][]int{}, all},
		{"no event", []api.Event{}, [api.Members][]int{}, all},
		{"one thought", []api.Event{think(4)}, [api.Members][]int{}, all},
		{"thoughts", thoughts(api.MaxEvents), [api.Members][]int{}, all},
		{"one word that nobody heard", []api.Event{say(4, api.MaxWords)}, [api.Members][]int{4: {api.MaxWords}}, all},
		{
			"words that nobody heard",
			[]api.Event{say(0, 2), say(1, 9), say(0, 1), think(0), say(0, 5)},
			[api.Members][]int{{2, 1, 5}, {9}},
			all,
		},
		{
			"one word that all heard",
			[]api.Event{say(2, 1), hear(4, 1), hear(0, 1), hear(3, 1), hear(1, 1)},
			[api.Members][]int{{1}, {1}, {1}, {1}, {1}},
			all,
		},
		{
			"a word heard by one alone",
			[]api.Event{think(3), say(0, 1), think(3), hear(3, 1), think(3)},
			[api.Members][]int{0: {1}, 3: {1}},
			all,
		},
	}
}

// ofOneMember are words of one member.
func ofOneMember() []told {
	return []told{
		{
			"as they were said",
			[]api.Event{say(4, 9), say(4, 3), hear(1, 9), hear(1, 3), hear(0, 9), hear(0, 3)},
			[api.Members][]int{0: {9, 3}, 1: {9, 3}, 4: {9, 3}},
			all,
		},
		{
			"the earlier one alone",
			[]api.Event{say(0, 1), say(0, 2), hear(1, 1)},
			[api.Members][]int{{1, 2}, {1}},
			all,
		},
		{
			"the later one alone",
			[]api.Event{say(0, 1), say(0, 2), hear(1, 2)},
			[api.Members][]int{{1, 2}, {2}},
			justTotal,
		},
		{
			"the later one alone, by the last member, of words that fall",
			[]api.Event{say(3, 30), say(3, 1), hear(0, 30), hear(0, 1), hear(4, 1)},
			[api.Members][]int{0: {30, 1}, 3: {30, 1}, 4: {1}},
			justTotal,
		},
		{
			"the wrong way round",
			[]api.Event{say(0, 1), say(0, 2), hear(1, 2), hear(1, 1)},
			[api.Members][]int{{1, 2}, {2, 1}},
			none,
		},
		{
			"the one between is missing",
			[]api.Event{say(0, 1), say(0, 2), say(0, 3), hear(2, 1), hear(2, 3)},
			[api.Members][]int{0: {1, 2, 3}, 2: {1, 3}},
			justTotal,
		},
		{
			"the first one comes last",
			[]api.Event{say(0, 1), say(0, 2), hear(2, 2), hear(3, 1), think(2), hear(2, 1)},
			[api.Members][]int{0: {1, 2}, 2: {2, 1}, 3: {1}},
			none,
		},
		{
			"said behind what was heard",
			[]api.Event{say(0, 2), hear(1, 2), say(0, 1), hear(1, 1)},
			[api.Members][]int{{2, 1}, {2, 1}},
			all,
		},
	}
}

// ofSeveral are questions and answers.
func ofSeveral() []told {
	return []told{
		{
			"the answer behind its question",
			[]api.Event{say(0, 2), hear(1, 2), say(1, 1), hear(2, 2), hear(2, 1), hear(0, 1)},
			[api.Members][]int{{2, 1}, {2, 1}, {2, 1}},
			all,
		},
		{
			"the answer ahead of its question",
			[]api.Event{say(0, 1), hear(1, 1), say(1, 2), hear(2, 2), hear(2, 1)},
			[api.Members][]int{{1}, {1, 2}, {2, 1}},
			fifoAlone,
		},
		{
			"the answer without its question",
			[]api.Event{say(0, 1), hear(1, 1), say(1, 2), hear(4, 2)},
			[api.Members][]int{0: {1}, 1: {1, 2}, 4: {2}},
			noCausal,
		},
		{
			"who asked hears the answer",
			[]api.Event{say(3, 5), hear(1, 5), say(1, 4), hear(3, 4)},
			[api.Members][]int{1: {5, 4}, 3: {5, 4}},
			all,
		},
		{
			"the answer to an answer, without the question",
			[]api.Event{say(0, 1), hear(1, 1), say(1, 2), hear(2, 1), hear(2, 2), say(2, 3), hear(3, 2), hear(3, 3)},
			[api.Members][]int{{1}, {1, 2}, {1, 2, 3}, {2, 3}},
			noCausal,
		},
		{
			"who asked hears the answer to an answer that it did not hear",
			[]api.Event{say(0, 1), hear(1, 1), say(1, 2), hear(2, 1), hear(2, 2), say(2, 3), hear(0, 3)},
			[api.Members][]int{{1, 3}, {1, 2}, {1, 2, 3}},
			noCausal,
		},
		{
			"who answers did not hear what came ahead of the question",
			[]api.Event{say(0, 1), say(0, 2), hear(1, 2), say(1, 3)},
			[api.Members][]int{{1, 2}, {2, 3}},
			justTotal,
		},
		{
			"said ahead of hearing the question: no answer",
			[]api.Event{say(0, 1), say(1, 2), hear(1, 1), hear(2, 2)},
			[api.Members][]int{{1}, {2, 1}, {2}},
			all,
		},
		{
			"a thought between question and answer",
			[]api.Event{say(0, 1), hear(1, 1), think(1), say(1, 2), think(2), hear(2, 2), hear(2, 1)},
			[api.Members][]int{{1}, {1, 2}, {2, 1}},
			fifoAlone,
		},
	}
}

// apart are words of which neither was said Before the other.
func apart() []told {
	return []told{
		{
			"heard alike",
			[]api.Event{say(0, 1), say(1, 2), hear(2, 2), hear(2, 1), hear(4, 2), hear(4, 1)},
			[api.Members][]int{{1}, {2}, {2, 1}, nil, {2, 1}},
			all,
		},
		{
			"heard in unlike orders",
			[]api.Event{say(0, 1), say(1, 2), hear(2, 2), hear(2, 1), hear(4, 1), hear(4, 2)},
			[api.Members][]int{{1}, {2}, {2, 1}, nil, {1, 2}},
			noTotal,
		},
		{
			"its own member said it where another one heard it",
			[]api.Event{say(0, 1), say(1, 2), hear(0, 2), hear(2, 1), hear(2, 2)},
			[api.Members][]int{{1, 2}, {2}, {1, 2}},
			all,
		},
		{
			"its own member said it ahead, another one heard it behind",
			[]api.Event{say(0, 1), say(1, 2), hear(0, 2), hear(2, 2), hear(2, 1)},
			[api.Members][]int{{1, 2}, {2}, {2, 1}},
			noTotal,
		},
		{
			"either said its own one ahead of the other's",
			[]api.Event{say(3, 1), say(4, 2), hear(3, 2), hear(4, 1)},
			[api.Members][]int{3: {1, 2}, 4: {2, 1}},
			noTotal,
		},
		{
			"both heard by one alone",
			[]api.Event{say(0, 1), say(1, 2), hear(2, 2), hear(2, 1)},
			[api.Members][]int{{1}, {2}, {2, 1}},
			all,
		},
		{
			"one word that both heard, others between",
			[]api.Event{say(0, 1), say(1, 2), say(2, 3), hear(3, 2), hear(3, 1), hear(4, 1), hear(4, 3)},
			[api.Members][]int{{1}, {2}, {3}, {2, 1}, {1, 3}},
			all,
		},
		{
			"in a ring, no two members against each other",
			[]api.Event{say(0, 1), say(1, 2), say(2, 3), hear(1, 3), hear(0, 2), hear(2, 1)},
			[api.Members][]int{{1, 2}, {2, 3}, {3, 1}},
			all,
		},
		{
			"the last two of three in unlike orders",
			[]api.Event{
				say(0, 1), say(1, 2), say(2, 3),
				hear(3, 1), hear(3, 2), hear(3, 3),
				hear(4, 1), hear(4, 3), hear(4, 2),
			},
			[api.Members][]int{{1}, {2}, {3}, {1, 2, 3}, {1, 3, 2}},
			noTotal,
		},
	}
}

// hold what comes of a history against what is asked for.
func hold(t *testing.T, want told) {
	t.Helper()
	if is, err := Of(want.h); err != nil || is != want.is {
		t.Errorf("%s: Of = %+v, %v, want %+v", want.name, is, err, want.is)
	}
	for who, words := range want.heard {
		if heard, err := Heard(want.h, who); err != nil || !slices.Equal(heard, words) {
			t.Errorf("%s: Heard by %d = %v, %v, want %v", want.name, who, heard, err, words)
		}
	}
}

func TestOrdinary(t *testing.T) {
	for _, want := range ordinary() {
		hold(t, want)
	}
}

// members that are none.
var strangers = []int{math.MinInt, -1, api.Members, api.Members + 1, 40, math.MaxInt}

func TestNoSuchMember(t *testing.T) {
	for _, c := range ordinary() {
		for _, who := range strangers {
			if heard, err := Heard(c.h, who); plain.Told(err) != api.ErrRange || heard != nil {
				t.Errorf("%s: Heard by %d = %v, %v, want nil, ErrRange", c.name, who, heard, err)
			}
		}
	}
}

// refuse tells whether both refuse a history with one error, whoever is asked for, and answer
// nothing beside it.
func refuse(t *testing.T, name string, h []api.Event, want api.Errno) {
	t.Helper()
	if is, err := Of(h); plain.Told(err) != want || is != none {
		t.Errorf("%s: Of = %+v, %v, want nothing, %v", name, is, err, want)
	}
	for _, who := range append([]int{0, 1, 2, 3, 4}, strangers...) {
		if heard, err := Heard(h, who); plain.Told(err) != want || heard != nil {
			t.Errorf("%s: Heard by %d = %v, %v, want nil, %v", name, who, heard, err, want)
		}
	}
}

func TestFaults(t *testing.T) {
	for _, f := range []struct {
		name string
		h    []api.Event
		want api.Errno
	}{
		{"one too many", thoughts(api.MaxEvents + 1), api.ErrFull},
		{"far too many", thoughts(1_000_000), api.ErrFull},
		{"one too many, of words", append(rounds(false).h, think(0)), api.ErrFull},
		{"too many, and the first is wrong", append([]api.Event{hear(9, 9)}, thoughts(api.MaxEvents)...), api.ErrFull},

		{"no member below", []api.Event{think(-1)}, api.ErrRange},
		{"no member above", []api.Event{think(0), think(api.Members)}, api.ErrRange},
		{"far below", []api.Event{say(math.MinInt, 1)}, api.ErrRange},
		{"far above", []api.Event{say(0, 1), hear(math.MaxInt, 1)}, api.ErrRange},
		{"an event of zeros", []api.Event{{}}, api.ErrRange},
		{"no such thing to do", []api.Event{{Who: 0, What: 4, Word: 1}}, api.ErrRange},
		{"nor below", []api.Event{{Who: 0, What: -1, Word: 0}}, api.ErrRange},
		{"a thought with a word", []api.Event{{Who: 0, What: api.Think, Word: 1}}, api.ErrRange},
		{"no word said", []api.Event{say(0, 0)}, api.ErrRange},
		{"a word below", []api.Event{say(0, -1)}, api.ErrRange},
		{"a word above", []api.Event{say(0, api.MaxWords+1)}, api.ErrRange},
		{"no word heard", []api.Event{hear(0, 0)}, api.ErrRange},
		{"a word above heard", []api.Event{hear(0, api.MaxWords+1)}, api.ErrRange},
		{"the last one wrong", append(thoughts(api.MaxEvents-1), think(5)), api.ErrRange},

		{"said twice by one", []api.Event{say(0, 1), say(0, 1)}, api.ErrClash},
		{"said twice by two", []api.Event{say(0, 1), say(1, 1)}, api.ErrClash},
		{"heard twice by one", []api.Event{say(0, 1), hear(1, 1), hear(1, 1)}, api.ErrClash},

		{"heard, never said", []api.Event{hear(1, 1)}, api.ErrNone},
		{"heard ahead of being said", []api.Event{hear(1, 1), say(0, 1)}, api.ErrNone},
		{"another word said", []api.Event{say(0, 1), hear(1, 2)}, api.ErrNone},

		{"heard by who said it", []api.Event{say(0, 1), hear(0, 1)}, api.ErrShape},
		{"heard by another one too", []api.Event{say(4, 30), hear(1, 30), hear(4, 30)}, api.ErrShape},

		{"the first of two faults", []api.Event{hear(1, 1), think(-1)}, api.ErrNone},
		{"the first of three", []api.Event{say(0, 1), hear(0, 1), say(1, 1), think(9)}, api.ErrShape},
		{"two faults of one event", []api.Event{say(0, 1), say(api.Members, 1)}, api.ErrRange},
	} {
		refuse(t, f.name, f.h, f.want)
	}
}

// placeOf is where a member said or heard a word; -1, if it did not.
func placeOf(h []api.Event, who, word int) int {
	return max(slices.Index(h, say(who, word)), slices.Index(h, hear(who, word)))
}

// asWritten makes what is asked for of a right history word by word as the chapter says it.
func asWritten(t *testing.T, h []api.Event) told {
	t.Helper()
	want := told{name: "as written", h: h, is: all}
	for at, e := range h {
		if e.What != api.Think {
			want.heard[e.Who] = append(want.heard[e.Who], e.Word)
		}
		if e.What != api.Hear {
			continue
		}
		later := slices.IndexFunc(h, func(s api.Event) bool { return s.What == api.Say && s.Word == e.Word })
		for i, s := range h[:at] {
			if s.What != api.Say {
				continue
			}
			if s.Who == h[later].Who && i < later && !slices.Contains(h[:at], hear(e.Who, s.Word)) {
				want.is.Fifo = false
			}
			before, err := history.Before(h, i, later)
			if err != nil {
				t.Fatalf("%v: Before(%d, %d): %v", h, i, later, err)
			}
			had := placeOf(h, e.Who, s.Word)
			if before && (had < 0 || had >= at) {
				want.is.Causal = false
			}
		}
	}
	want.is.Total = !againstEachOther(h)
	return want
}

// againstEachOther tells whether any two members have any two words in unlike orders.
func againstEachOther(h []api.Event) bool {
	for q, second := range h {
		for _, first := range h[:q] {
			if first.Who != second.Who || first.What == api.Think || second.What == api.Think {
				continue
			}
			for who := range api.Members {
				v, w := placeOf(h, who, first.Word), placeOf(h, who, second.Word)
				if w >= 0 && v > w {
					return true
				}
			}
		}
	}
	return false
}

// seen counts how many histories had which faces.
type seen map[api.Faces]int

// compare a right history with what is written.
func (s seen) compare(t *testing.T, h []api.Event) {
	t.Helper()
	want := asWritten(t, h)
	hold(t, want)
	if t.Failed() {
		t.Fatalf("history %v", h)
	}
	if want.is.Causal && !want.is.Fifo {
		t.Fatalf("by cause, but not in order: %v", h)
	}
	s[want.is]++
}

// all the faces that can be: who hears by cause hears in order.
func (s seen) all(t *testing.T, least int) {
	t.Helper()
	for _, is := range []api.Faces{all, none, noTotal, fifoAlone, noCausal, justTotal} {
		if s[is] < least {
			t.Errorf("only %d histories had %+v", s[is], is)
		}
	}
}

// TestAllShort holds every short history of three members and two words against what is written.
func TestAllShort(t *testing.T) {
	const longest = 6
	var events []api.Event
	for _, who := range []int{4, 0, 2} {
		events = append(events, say(who, 1), say(who, 2), hear(who, 1), hear(who, 2))
	}
	events = append(events, think(2))
	s := seen{}
	var grow func(h []api.Event)
	grow = func(h []api.Event) {
		if _, err := history.Check(h); err != nil {
			refuse(t, "short", h, plain.Told(err))
			return
		}
		s.compare(t, h)
		if len(h) == longest {
			return
		}
		for _, e := range events {
			grow(append(slices.Clone(h), e))
		}
	}
	grow(nil)
	s.all(t, 10)
}

// dice are numbers that jump about, the same ones each time.
type dice uint64

func (d *dice) below(n int) int {
	*d = *d*6364136223846793005 + 1442695040888963407
	return int(*d >> 33 % dice(n))
}

// TestMany holds long histories of all members against what is written.
func TestMany(t *testing.T) {
	d := dice(4)
	s := seen{}
	for range 4000 {
		var h []api.Event
		words, members := 1+d.below(api.MaxWords), 2+d.below(api.Members-1)
		for range d.below(2 * api.MaxEvents) {
			e := api.Event{Who: d.below(members), What: 1 + d.below(api.Hear)}
			if e.What != api.Think {
				e.Word = 1 + d.below(words)
			}
			if _, err := history.Check(append(h, e)); err == nil {
				h = append(h, e)
			}
		}
		s.compare(t, h)
	}
	s.all(t, 5)
}

func TestArgumentStaysAsItIs(t *testing.T) {
	whole := append(slices.Clone(talk.h), think(-7), hear(2, 1), hear(1, 1))
	was := slices.Clone(whole)
	want := talk
	want.h = whole[:len(talk.h)]
	hold(t, want)
	if heard, err := Heard(want.h, -1); heard != nil || err == nil {
		t.Errorf("Heard by -1 = %v, %v", heard, err)
	}
	if !slices.Equal(whole, was) {
		t.Errorf("the history became %v", whole)
	}
	wrong := []api.Event{say(0, 1), hear(1, 1), hear(1, 1), think(9)}
	was = slices.Clone(wrong)
	refuse(t, "wrong", wrong[:3], api.ErrClash)
	if !slices.Equal(wrong, was) {
		t.Errorf("the wrong history became %v", wrong)
	}
}

// spoil writes over all of a list, and over what lies behind its length.
func spoil(list []int) {
	list = list[:cap(list)]
	for i := range list {
		list[i] = -5
	}
}

func TestAnswersAreFresh(t *testing.T) {
	h := slices.Clone(talk.h)
	again := talk
	again.h = h
	for who, words := range talk.heard {
		first, err := Heard(h, who)
		second, bad := Heard(h, who)
		if err != nil || bad != nil {
			t.Fatal(err, bad)
		}
		spoil(first)
		if !slices.Equal(second, words) {
			t.Errorf("writing into what %d heard changed another answer to %v", who, second)
		}
	}
	if !slices.Equal(h, talk.h) {
		t.Errorf("writing into the answers changed the history to %v", h)
	}
	hold(t, again)
}

func TestHistoryIsNotKept(t *testing.T) {
	h := slices.Clone(talk.h)
	var heard [api.Members][]int
	for who := range heard {
		words, err := Heard(h, who)
		if err != nil {
			t.Fatal(err)
		}
		heard[who] = words
	}
	for at := range h {
		h[at] = think(0)
	}
	for who, words := range talk.heard {
		if !slices.Equal(heard[who], words) {
			t.Errorf("writing into the history changed what %d heard to %v", who, heard[who])
		}
	}
	hold(t, told{"thoughts", h, [api.Members][]int{}, all})
	hold(t, talk)
}
