package agree

import (
	"math"
	"slices"
	"testing"

	"mootbell/api"
)

// toldAgree is A1 and A2 in another way: all that was taken, in the order in which it came, from
// which each answer is worked out anew.
type toldAgree struct {
	n     int
	taken []call
	gave  map[call]api.Stamp
}

func newTold(n int) *toldAgree { return &toldAgree{n: n, gave: map[call]api.Stamp{}} }

func (m *toldAgree) was(c call) bool { return slices.Contains(m.taken, c) }

func (m *toldAgree) allGave(word int) bool {
	for who := range m.n {
		if !m.was(propose(who, word)) {
			return false
		}
	}
	return true
}

// worth puts Stamps into a row: Who is below 5.
func worth(s api.Stamp) int { return 5*s.N + s.Who }

// final is a word's Stamp, as far as it is known.
func (m *toldAgree) final(word int) api.Stamp {
	best := api.Stamp{}
	for who := range m.n {
		if s := m.gave[propose(who, word)]; worth(s) > worth(best) {
			best = s
		}
	}
	return best
}

// next is the N that a member gives.
func (m *toldAgree) next(who int) int {
	most := 0
	for _, c := range m.taken {
		switch c {
		case propose(who, c.word):
			most = max(most, m.gave[c].N)
		case settle(who, c.word):
			most = max(most, m.final(c.word).N)
		}
	}
	return most + 1
}

// heard is what a member learnt that is below each that it gave and did not learn, by the Stamps for
// good: none that comes later is below one that was heard.
func (m *toldAgree) heard(who int) []int {
	bound := math.MaxInt
	var words []int
	for word := 1; word <= 30; word++ {
		switch {
		case m.was(settle(who, word)):
			words = append(words, word)
		case m.was(propose(who, word)):
			bound = min(bound, worth(m.gave[propose(who, word)]))
		}
	}
	words = slices.DeleteFunc(words, func(word int) bool { return worth(m.final(word)) > bound })
	slices.SortFunc(words, func(a, b int) int { return worth(m.final(a)) - worth(m.final(b)) })
	return words
}

func (m *toldAgree) fault(c call) api.Errno {
	noMember := c.what != "say" && (c.who < 0 || c.who >= m.n)
	switch {
	case noMember, c.word < 1, c.word > 30:
		return api.ErrRange
	case c.what != "say" && !m.was(say(c.word)):
		return api.ErrNone
	case c.what == "settle" && !m.allGave(c.word):
		return api.ErrState
	case m.was(c):
		return api.ErrClash
	}
	return api.OK
}

func (m *toldAgree) do(c call) told {
	if errno := m.fault(c); errno != api.OK {
		return told{errno: errno}
	}
	switch c.what {
	case "say":
		m.taken = append(m.taken, c)
		return told{}
	case "propose":
		s := api.Stamp{N: m.next(c.who), Who: c.who}
		m.gave[c] = s
		m.taken = append(m.taken, c)
		return told{stamp: s}
	}
	ahead := len(m.heard(c.who))
	m.taken = append(m.taken, c)
	return told{heard: m.heard(c.who)[ahead:]}
}

// pair is a group, and what it is held against.
type pair struct {
	a *Agree
	m *toldAgree
}

func newPair(t *testing.T, n int) pair {
	t.Helper()
	return pair{group(t, n), newTold(n)}
}

// hold asks both for one thing, and holds the answers against each other.
func (p pair) hold(t *testing.T, c call) told {
	t.Helper()
	want := p.m.do(c)
	if got := asked(p.a, c); !got.is(want) {
		t.Fatalf("behind %v: %v = %v, want %v", p.m.taken, c, got, want)
	}
	return want
}

func (p pair) holdHeard(t *testing.T) {
	t.Helper()
	for who := range p.m.n {
		if got, err := p.a.Heard(who); err != nil || !slices.Equal(got, p.m.heard(who)) {
			t.Fatalf("behind %v: Heard(%d) = %v, %v, want %v", p.m.taken, who, got, err, p.m.heard(who))
		}
	}
}

// everyCall is all that can be asked of members and words up to some, and of none.
func everyCall(n int, words ...int) []call {
	var all []call
	for _, word := range words {
		all = append(all, say(word))
		for who := -1; who <= n; who++ {
			all = append(all, propose(who, word), settle(who, word))
		}
	}
	return all
}

// everyOrder hands out each row of calls that a group of n takes one behind the other, until it
// takes none any more.
func everyOrder(n int, kinds []call, to func(row []call)) {
	m := newTold(n)
	var grow func()
	grow = func() {
		last := true
		for _, c := range kinds {
			if m.fault(c) == api.OK {
				// Which calls are taken does not hang on the Stamps.
				last = false
				m.taken = append(m.taken, c)
				grow()
				m.taken = m.taken[:len(m.taken)-1]
			}
		}
		if last {
			to(slices.Clone(m.taken))
		}
	}
	grow()
}

// Two members, two words, in each order that there is; between each two calls all others are asked
// that are refused there, by which nothing changes.
func TestEveryOrderOfTwoWords(t *testing.T) {
	kinds := everyCall(2, 0, 1, 30, 31)
	rows, ahead := 0, map[int]int{}
	everyOrder(2, kinds, func(row []call) {
		rows++
		p := newPair(t, 2)
		for _, c := range row {
			for _, other := range kinds {
				if p.m.fault(other) != api.OK {
					p.hold(t, other)
				}
			}
			p.hold(t, c)
			p.holdHeard(t)
		}
		for who := range 2 {
			if l := p.m.heard(who); len(l) != 2 || !slices.Equal(l, p.m.heard(0)) {
				t.Fatalf("behind %v member %d heard %v", row, who, l)
			}
		}
		ahead[p.m.heard(0)[0]]++
	})
	// Each word's five calls come in 4 orders, and two rows of five go into each other in 252.
	if rows != 4*4*252 || ahead[1] != rows/2 || ahead[30] != rows/2 {
		t.Errorf("%d rows, ahead %v", rows, ahead)
	}
}

// dice are numbers that look thrown, and are the same each time.
type dice uint64

func (d *dice) below(n int) int {
	*d = *d*6364136223846793005 + 1442695040888963407
	return int(uint64(*d>>33) % uint64(n))
}

// one of some numbers.
func (d *dice) one(of ...int) int { return of[d.below(len(of))] }

// throw is a call that may be wrong in any way, of one of some words.
func (d *dice) throw(n, words int) call {
	c := call{[]string{"say", "propose", "propose", "settle", "settle", "settle"}[d.below(6)], d.below(n), d.below(words) + 1}
	switch d.below(40) {
	case 0:
		c.who = d.one(math.MinInt, -1, n, n+1, math.MaxInt)
	case 1:
		c.word = d.one(math.MinInt, -1, 0, api.MaxWords+1, math.MaxInt)
	}
	if c.what == "say" {
		c.who = 0
	}
	return c
}

// holdOneOrder tells whether of any two members one heard what the other one did, and more at most.
func holdOneOrder(t *testing.T, a *Agree) {
	t.Helper()
	all := looks(t, a)
	for _, x := range all {
		for _, y := range all {
			if both := min(len(x), len(y)); !slices.Equal(x[:both], y[:both]) {
				t.Fatalf("two heard unlike: %v", all)
			}
		}
	}
}

func TestLongRows(t *testing.T) {
	d := dice(11)
	counts := map[string]int{}
	for range 400 {
		n, words := d.below(4)+2, d.below(8)+1
		p := newPair(t, n)
		for range 40 * words {
			c := d.throw(n, words)
			got := p.hold(t, c)
			counts[c.what+" "+got.errno.Error()]++
			if c.what == "settle" && got.errno == api.OK {
				counts["heard "+[]string{"none", "one", "several"}[min(len(got.heard), 2)]]++
			}
			p.holdHeard(t)
		}
		holdOneOrder(t, p.a)
	}
	for _, kind := range []string{
		"say OK", "say ErrRange", "say ErrClash",
		"propose OK", "propose ErrRange", "propose ErrNone", "propose ErrClash",
		"settle OK", "settle ErrRange", "settle ErrNone", "settle ErrState", "settle ErrClash",
		"heard none", "heard one", "heard several",
	} {
		if counts[kind] < 100 {
			t.Errorf("%s: %d times, too few", kind, counts[kind])
		}
	}
}

// All words, in a group of each size, each call once, in thrown orders: in the end all heard all, in
// one order.
func TestAllHearAllInOneOrder(t *testing.T) {
	d := dice(12)
	for round := range 40 {
		n := round%4 + 2
		a := group(t, n, rising(1, api.MaxWords)...)
		var gives, learns []call
		for word := 1; word <= api.MaxWords; word++ {
			for who := range n {
				gives = append(gives, propose(who, word))
				learns = append(learns, settle(who, word))
			}
		}
		heard := make([][]int, n)
		for len(gives)+len(learns) > 0 {
			from := &gives
			if len(gives) == 0 || len(learns) > 0 && d.below(2) == 0 {
				from = &learns
			}
			i := d.below(len(*from))
			c := (*from)[i]
			got := asked(a, c)
			if got.errno == api.ErrState && c.what == "settle" {
				continue
			}
			if got.errno != api.OK {
				t.Fatalf("%v told %v", c, got.errno)
			}
			*from = slices.Delete(*from, i, i+1)
			heard[c.who] = append(heard[c.who], got.heard...)
			has(t, a, c.who, heard[c.who]...)
			holdOneOrder(t, a)
		}
		for who := range n {
			if !slices.Equal(slices.Sorted(slices.Values(heard[who])), rising(1, api.MaxWords)) {
				t.Fatalf("member %d heard %v", who, heard[who])
			}
		}
	}
}
