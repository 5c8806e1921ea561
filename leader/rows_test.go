package leader

import (
	"math"
	"slices"
	"testing"

	"mootbell/again"
	"mootbell/agree"
	"mootbell/api"
	"mootbell/faces"
)

// toldLeader is L1 in another way: all that was taken, in the order in which it came, from which each
// answer is worked out anew.
type toldLeader struct {
	n     int
	taken []call
}

func (m *toldLeader) was(c call) bool { return slices.Contains(m.taken, c) }

// said is the words, place by place.
func (m *toldLeader) said() []int {
	var words []int
	for _, c := range m.taken {
		if c.what == "say" {
			words = append(words, c.number)
		}
	}
	return words
}

func (m *toldLeader) lacks(who int) []int {
	var places []int
	for at := range m.said() {
		if !m.was(take(who, at)) {
			places = append(places, at)
		}
	}
	return places
}

// heard is what stands ahead of the first place that a member lacks.
func (m *toldLeader) heard(who int) []int {
	words := m.said()
	if lack := m.lacks(who); len(lack) > 0 {
		return words[:lack[0]]
	}
	return words
}

func (m *toldLeader) fault(c call) api.Errno {
	if c.what == "say" {
		switch {
		case c.number < 1, c.number > 30:
			return api.ErrRange
		case m.was(c):
			return api.ErrClash
		}
		return api.OK
	}
	switch {
	case c.who < 0, c.who >= m.n:
		return api.ErrRange
	case c.number < 0, c.number >= len(m.said()):
		return api.ErrNone
	}
	return api.OK
}

// isNew tells of a call whether anything comes of it.
func (m *toldLeader) isNew(c call) bool { return m.fault(c) == api.OK && !m.was(c) }

func (m *toldLeader) do(c call) told {
	if errno := m.fault(c); errno != api.OK {
		return told{errno: errno}
	}
	if c.what == "say" {
		m.taken = append(m.taken, c)
		return told{placed: api.Placed{At: len(m.said()) - 1, Word: c.number}}
	}
	ahead := len(m.heard(c.who))
	m.taken = append(m.taken, c)
	return told{heard: m.heard(c.who)[ahead:]}
}

// pair is a group, and what it is held against.
type pair struct {
	l *Leader
	m *toldLeader
}

func newPair(t *testing.T, n int) pair {
	t.Helper()
	return pair{group(t, n), &toldLeader{n: n}}
}

// hold asks both for one thing, and holds the answers against each other.
func (p pair) hold(t *testing.T, c call) told {
	t.Helper()
	want := p.m.do(c)
	if got := asked(p.l, c); !got.is(want) {
		t.Fatalf("behind %v: %v = %v, want %v", p.m.taken, c, got, want)
	}
	return want
}

func (p pair) holdLooks(t *testing.T) {
	t.Helper()
	var want [][]int
	for who := range p.m.n {
		want = append(want, p.m.lacks(who), p.m.heard(who))
	}
	if got := looks(t, p.l); !slices.EqualFunc(got, want, slices.Equal) {
		t.Fatalf("behind %v: lacking and heard are %v, want %v", p.m.taken, got, want)
	}
}

// everyOrder hands out each row of calls that a group of n takes one behind the other, until of none
// anything comes any more.
func everyOrder(n int, kinds []call, to func(row []call)) {
	m := &toldLeader{n: n}
	var grow func()
	grow = func() {
		last := true
		for _, c := range kinds {
			if m.isNew(c) {
				last = false
				m.taken = append(m.taken, c)
				grow()
				m.taken = m.taken[:len(m.taken)-1]
			}
		}
		if last {
			to(slices.Clone(m.taken))
		}
	}
	grow()
}

// Two members, three words, in each order that there is; between each two calls all others are asked
// that are refused there, or of which nothing comes.
func TestEveryOrderOfThreeWords(t *testing.T) {
	var kinds []call
	for _, word := range []int{0, 1, 30, 7, 31} {
		kinds = append(kinds, say(word))
	}
	for who := -1; who <= 2; who++ {
		for at := -1; at <= 3; at++ {
			kinds = append(kinds, take(who, at))
		}
	}
	rows := 0
	everyOrder(2, kinds, func(row []call) {
		rows++
		p := newPair(t, 2)
		for _, c := range row {
			for _, other := range kinds {
				if p.m.isNew(other) {
					continue
				}
				if got, want := asked(p.l, other), (told{errno: p.m.fault(other)}); !got.is(want) {
					t.Fatalf("behind %v: %v = %v, want %v", p.m.taken, other, got, want)
				}
			}
			p.hold(t, c)
			p.holdLooks(t)
		}
		for who := range 2 {
			has(t, p.l, who, p.m.said()...)
			lacks(t, p.l, who)
		}
	})
	// Three words are said in 6 orders; a word is ahead of its two places taken, and of all of the next
	// word: so of 9! rows are one in 9 * 6 * 3.
	if rows != 6*362880/(9*6*3) {
		t.Errorf("%d rows", rows)
	}
}

// dice are numbers that look thrown, and are the same each time.
type dice uint64

func (d *dice) below(n int) int {
	*d = *d*6364136223846793005 + 1442695040888963407
	return int(uint64(*d>>33) % uint64(n))
}

// one of some numbers.
func (d *dice) one(of ...int) int { return of[d.below(len(of))] }

// mixed is the numbers from one to another one, in a thrown order.
func (d *dice) mixed(from, to int) []int {
	l := rising(from, to)
	for i := len(l) - 1; i > 0; i-- {
		k := d.below(i + 1)
		l[i], l[k] = l[k], l[i]
	}
	return l
}

// throw is a call that may be wrong in any way, of one of some words or places.
func (d *dice) throw(n, words int) call {
	if d.below(3) == 0 {
		if d.below(12) == 0 {
			return say(d.one(math.MinInt, -1, 0, api.MaxWords+1, math.MaxInt))
		}
		return say(api.MaxWords - d.below(words))
	}
	c := take(d.below(n), d.below(words))
	if d.below(20) == 0 {
		c.who = d.one(math.MinInt, -1, n, n+1, math.MaxInt)
	}
	if d.below(20) == 0 {
		c.number = d.one(math.MinInt, -1, words, api.MaxWords, math.MaxInt)
	}
	return c
}

func TestLongRows(t *testing.T) {
	d := dice(21)
	counts := map[string]int{}
	for range 400 {
		n, words := d.below(4)+2, d.below(api.MaxWords)+1
		p := newPair(t, n)
		for range 6 * words {
			c := d.throw(n, words)
			isNew := p.m.isNew(c)
			got := p.hold(t, c)
			counts[c.what+" "+got.errno.Error()]++
			switch {
			case c.what == "take" && isNew:
				counts["heard "+[]string{"none", "one", "several"}[min(len(got.heard), 2)]]++
			case c.what == "take" && got.errno == api.OK:
				counts["came already"]++
			}
			p.holdLooks(t)
		}
	}
	for _, kind := range []string{
		"say OK", "say ErrRange", "say ErrClash",
		"take OK", "take ErrRange", "take ErrNone",
		"heard none", "heard one", "heard several", "came already",
	} {
		if counts[kind] < 100 {
			t.Errorf("%s: %d times, too few", kind, counts[kind])
		}
	}
}

// A member is as one who hears numbers from 1 on, each one more than its place.
func TestAsAHearer(t *testing.T) {
	d := dice(22)
	for round := range 40 {
		n := round%4 + 2
		words := d.mixed(1, api.MaxWords)
		l := group(t, n, words...)
		for who := range n {
			h := again.NewHearer()
			for _, at := range d.mixed(0, api.MaxWords-1) {
				heard, err := h.Take(at+1, words[at])
				if err != nil {
					t.Fatal(err)
				}
				takes(t, l, who, at, heard...)
				places, err := h.Lacks(api.MaxWords)
				if err != nil {
					t.Fatal(err)
				}
				for i := range places {
					places[i]--
				}
				lacks(t, l, who, places...)
			}
		}
	}
}

// comes puts behind some events what a member hears by a place.
func comes(t *testing.T, l *Leader, h []api.Event, who, at int) []api.Event {
	t.Helper()
	heard, err := l.Take(who, at)
	if err != nil {
		t.Fatalf("Take(%d, %d) told %v", who, at, err)
	}
	for _, word := range heard {
		h = append(h, api.Event{Who: who, What: api.Hear, Word: word})
	}
	return h
}

// One who is not of the group says words, and each member hears them by their places, as they come
// to it, or not: no two hear two of them in unlike orders.
func TestOneOrderForAll(t *testing.T) {
	d := dice(23)
	from := api.Members - 1
	some := 0
	for round := range 300 {
		n := round%(from-1) + 2
		// Said, and heard by all, they are at most MaxEvents.
		words := d.mixed(1, api.MaxWords)[:api.MaxEvents/(n+1)]
		l := group(t, n)
		var h []api.Event
		for at, word := range words {
			says(t, l, at, word)
			h = append(h, api.Event{Who: from, What: api.Say, Word: word})
			for range d.below(3 * n) {
				h = comes(t, l, h, d.below(n), d.below(at+1))
			}
		}
		f, err := faces.Of(h)
		if want := (api.Faces{Fifo: true, Causal: true, Total: true}); f != want || err != nil {
			t.Fatalf("of %v the faces are %v, %v", h, f, err)
		}
		for who := range n {
			heard, err := faces.Heard(h, who)
			if err != nil || !slices.Equal(heard, words[:len(heard)]) {
				t.Fatalf("of %v member %d heard %v, %v", h, who, heard, err)
			}
			has(t, l, who, heard...)
			if len(heard) > 1 && len(heard) < len(words) {
				some++
			}
		}
	}
	if some < 300 {
		t.Errorf("%d members heard several and not all, too few", some)
	}
}

// agreed is a group of n that heard all words, which came to each in another order.
func agreed(t *testing.T, n int, d *dice) *agree.Agree {
	t.Helper()
	a, err := agree.New(n)
	if err != nil {
		t.Fatal(err)
	}
	each := func(do func(word int) error) {
		t.Helper()
		for _, word := range d.mixed(1, api.MaxWords) {
			if err := do(word); err != nil {
				t.Fatal(err)
			}
		}
	}
	each(a.Say)
	for who := range n {
		each(func(word int) error {
			_, err := a.Propose(who, word)
			return err
		})
	}
	for who := range n {
		each(func(word int) error {
			_, err := a.Settle(who, word)
			return err
		})
	}
	return a
}

// Places that are given in the order on which a group agreed have each member hear the same as there.
func TestTheOrderOnWhichAllAgreed(t *testing.T) {
	d := dice(24)
	for n := 2; n <= api.Members; n++ {
		a := agreed(t, n, &d)
		order, err := a.Heard(0)
		if err != nil || len(order) != api.MaxWords {
			t.Fatalf("all agreed on %v, %v", order, err)
		}
		l := group(t, n, order...)
		for who := range n {
			for _, at := range d.mixed(0, api.MaxWords-1) {
				comes(t, l, nil, who, at)
			}
			heard, err := a.Heard(who)
			if err != nil {
				t.Fatal(err)
			}
			has(t, l, who, heard...)
		}
	}
}
