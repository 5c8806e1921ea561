package token

import (
	"math"
	"slices"
	"testing"

	"mootbell/api"
	"mootbell/faces"
	"mootbell/leader"
)

// toldToken is T1 in another way: all that was taken, in the order in which it came, from which each
// answer is worked out anew.
type toldToken struct {
	n, most int
	taken   []call
}

// placing is what was said of all, and which got places.
type placing struct {
	said   []call
	placed []api.Placed
	passed int
}

func (p placing) has(word int) bool {
	return slices.ContainsFunc(p.placed, func(x api.Placed) bool { return x.Word == word })
}

// waits is what a member said and has no place.
func (p placing) waits(who int) []int {
	var words []int
	for _, c := range p.said {
		if c.who == who && !p.has(c.word) {
			words = append(words, c.word)
		}
	}
	return words
}

func (m *toldToken) now() placing {
	var p placing
	for _, c := range m.taken {
		if c.what == "say" {
			p.said = append(p.said, c)
			continue
		}
		words := p.waits(p.passed % m.n)
		for _, word := range words[:min(len(words), m.most)] {
			p.placed = append(p.placed, api.Placed{At: len(p.placed), Word: word})
		}
		p.passed++
	}
	return p
}

func (m *toldToken) fault(c call) api.Errno {
	switch {
	case c.what == "pass":
		return api.OK
	case c.who < 0, c.who >= m.n, c.word < 1, c.word > 30:
		return api.ErrRange
	case slices.ContainsFunc(m.taken, func(x call) bool { return x.what == "say" && x.word == c.word }):
		return api.ErrClash
	}
	return api.OK
}

func (m *toldToken) do(c call) told {
	if errno := m.fault(c); errno != api.OK {
		return told{errno: errno}
	}
	ahead := len(m.now().placed)
	m.taken = append(m.taken, c)
	return told{placed: m.now().placed[ahead:]}
}

// pair is a token, and what it is held against.
type pair struct {
	k *Token
	m *toldToken
}

func newPair(t *testing.T, n, most int) pair {
	t.Helper()
	return pair{group(t, n, most), &toldToken{n: n, most: most}}
}

// hold asks both for one thing, and holds the answers against each other.
func (p pair) hold(t *testing.T, c call) told {
	t.Helper()
	want := p.m.do(c)
	if got := asked(p.k, c); !got.is(want) {
		t.Fatalf("of %d, at most %d, behind %v: %v = %v, want %v", p.m.n, p.m.most, p.m.taken, c, got, want)
	}
	return want
}

func (p pair) holdLooks(t *testing.T) {
	t.Helper()
	now := p.m.now()
	var want [][]int
	for who := range p.m.n {
		want = append(want, now.waits(who))
	}
	want = append(want, []int{now.passed % p.m.n})
	if got := looks(t, p.k); !slices.EqualFunc(got, want, slices.Equal) {
		t.Fatalf("of %d, at most %d, behind %v: waiting, and who has the token, are %v, want %v", p.m.n, p.m.most, p.m.taken, got, want)
	}
}

// everyRow hands out each row of so many calls that are taken one behind the other.
func everyRow(n, length int, kinds []call, to func(row []call)) {
	m := &toldToken{n: n, most: 1}
	var grow func()
	grow = func() {
		if len(m.taken) == length {
			to(slices.Clone(m.taken))
			return
		}
		for _, c := range kinds {
			if m.fault(c) == api.OK {
				m.taken = append(m.taken, c)
				grow()
				m.taken = m.taken[:len(m.taken)-1]
			}
		}
	}
	grow()
}

// Three words, said by any, and the token passed at any time; between each two calls all others are
// asked that are refused there.
func TestEveryRowOfThreeWords(t *testing.T) {
	for n := 2; n <= 3; n++ {
		kinds := []call{pass()}
		for who := -1; who <= n; who++ {
			for _, word := range []int{0, 1, 30, 7, 31} {
				kinds = append(kinds, say(who, word))
			}
		}
		length := 12 - 2*n
		rows := 0
		everyRow(n, length, kinds, func(row []call) {
			rows++
			for most := 1; most <= 3; most++ {
				p := newPair(t, n, most)
				for _, c := range row {
					for _, other := range kinds {
						if p.m.fault(other) != api.OK {
							p.hold(t, other)
						}
					}
					p.hold(t, c)
					p.holdLooks(t)
				}
			}
		})
		// Of the calls up to three are words, in any order, each said by any.
		want, ways := 0, 1
		for said := range 4 {
			want += ways
			ways = ways * (length - said) / (said + 1) * (3 - said) * n
		}
		if rows != want {
			t.Errorf("%d rows in a group of %d, want %d", rows, n, want)
		}
	}
}

// dice are numbers that look thrown, and are the same each time.
type dice uint64

func (d *dice) below(n int) int {
	*d = *d*6364136223846793005 + 1442695040888963407
	return int(uint64(*d>>33) % uint64(n))
}

// one of some numbers.
func (d *dice) one(of ...int) int { return of[d.below(len(of))] }

// mixed is the numbers from one to another one, in a thrown order.
func (d *dice) mixed(from, to int) []int {
	l := rising(from, to)
	for i := len(l) - 1; i > 0; i-- {
		k := d.below(i + 1)
		l[i], l[k] = l[k], l[i]
	}
	return l
}

// throw is a call that may be wrong in any way; of so many calls one passes the token on.
func (d *dice) throw(n, often int) call {
	if d.below(often) == 0 {
		return pass()
	}
	c := say(d.below(n), d.below(api.MaxWords)+1)
	if d.below(15) == 0 {
		c.who = d.one(math.MinInt, -1, n, n+1, math.MaxInt)
	}
	if d.below(15) == 0 {
		c.word = d.one(math.MinInt, -1, 0, api.MaxWords+1, math.MaxInt)
	}
	return c
}

func TestLongRows(t *testing.T) {
	d := dice(31)
	counts := map[string]int{}
	for range 400 {
		n, most, often := d.below(4)+2, d.below(10)+1, d.below(12)+2
		p := newPair(t, n, most)
		for range 120 {
			c := d.throw(n, often)
			waiting := len(p.m.now().waits(p.k.Holder()))
			got := p.hold(t, c)
			counts[c.what+" "+got.errno.Error()]++
			if c.what == "pass" {
				counts[byMost(waiting, most)]++
			}
			p.holdLooks(t)
		}
	}
	for _, kind := range []string{
		"say OK", "say ErrRange", "say ErrClash", "pass OK",
		"none waits", "fewer than most", "as many as most", "one more", "many more",
	} {
		if counts[kind] < 100 {
			t.Errorf("%s: %d times, too few", kind, counts[kind])
		}
	}
}

// byMost tells of how many wait how that is to how many get places at a turn.
func byMost(waiting, most int) string {
	switch {
	case waiting == 0:
		return "none waits"
	case waiting < most:
		return "fewer than most"
	case waiting == most:
		return "as many as most"
	case waiting == most+1:
		return "one more"
	}
	return "many more"
}

// All words are said, at any time between turns, and get places until none waits: each word one,
// the words of each member in the order in which it said them, and a leader gives the same ones.
func TestEachWordOnePlace(t *testing.T) {
	d := dice(32)
	for round := range 200 {
		n := round%4 + 2
		k := group(t, n, round%10+1)
		l, err := leader.New(n)
		if err != nil {
			t.Fatal(err)
		}
		said, placed := make([][]int, n), make([][]int, n)
		turn := func() {
			who := k.Holder()
			for _, p := range k.Pass() {
				if same, err := l.Say(p.Word); same != p || err != nil {
					t.Fatalf("a leader gives %v, %v, want %v", same, err, p)
				}
				placed[who] = append(placed[who], p.Word)
			}
		}
		for _, word := range d.mixed(1, api.MaxWords) {
			who := d.below(n)
			says(t, k, who, word)
			said[who] = append(said[who], word)
			for range d.below(2) {
				turn()
			}
		}
		for range n * api.MaxWords {
			turn()
		}
		noneWaits(t, k)
		if !slices.EqualFunc(said, placed, slices.Equal) {
			t.Fatalf("places were got by %v, want %v", placed, said)
		}
	}
}

// heardBy is a group of which each hears what got places, place by place, as far as it has come.
type heardBy struct {
	order []int
	upTo  []int
	h     []api.Event
}

// hears has a member hear the next word, if there is one.
func (g *heardBy) hears(who int) bool {
	if g.upTo[who] == len(g.order) {
		return false
	}
	g.h = append(g.h, api.Event{Who: who, What: api.Hear, Word: g.order[g.upTo[who]]})
	g.upTo[who]++
	return true
}

// turn has who has the token hear all that is ahead of it, and say what gets a place then.
func (g *heardBy) turn(t *testing.T, k *Token) {
	t.Helper()
	who := k.Holder()
	for g.hears(who) {
	}
	for _, p := range k.Pass() {
		if p.At != len(g.order) {
			t.Fatalf("%v got its place behind %v", p, g.order)
		}
		g.order = append(g.order, p.Word)
		g.h = append(g.h, api.Event{Who: who, What: api.Say, Word: p.Word})
		g.upTo[who]++
	}
}

// Who has the token may speak: no two hear two words in unlike orders, and no answer is heard ahead
// of its question.
func TestOneOrderForAll(t *testing.T) {
	d := dice(33)
	full := api.Faces{Fifo: true, Causal: true, Total: true}
	behind := 0
	for round := range 300 {
		n := round%4 + 2
		k := group(t, n, d.below(10)+1)
		g := &heardBy{upTo: make([]int, n)}
		// Said once, and heard by all others, they are at most MaxEvents.
		for _, word := range d.mixed(1, api.MaxWords)[:api.MaxEvents/n] {
			says(t, k, d.below(n), word)
			for range d.below(3) {
				g.turn(t, k)
			}
			for range d.below(n) {
				g.hears(d.below(n))
			}
		}
		if f, err := faces.Of(g.h); f != full || err != nil {
			t.Fatalf("of %v the faces are %v, %v", g.h, f, err)
		}
		for who := range n {
			heard, err := faces.Heard(g.h, who)
			if err != nil || !slices.Equal(heard, g.order[:len(heard)]) {
				t.Fatalf("of %v member %d heard %v, %v", g.h, who, heard, err)
			}
			if len(heard) > 1 && len(heard) < len(g.order) {
				behind++
			}
		}
	}
	if behind < 100 {
		t.Errorf("%d members heard several and not all, too few", behind)
	}
}
