package stable

import (
	"math"
	"slices"
	"testing"

	"mootbell/again"
	"mootbell/api"
	"mootbell/cause"
	"mootbell/plain"
	"mootbell/vector"
)

// call tells how far one has come.
type call struct {
	who int
	v   []int
}

// toldStable is S1 in another way: all that was taken, from which each answer is worked out anew.
type toldStable struct {
	n     int
	taken []call
}

func (m *toldStable) fault(c call) api.Errno {
	if c.who < 0 || c.who >= m.n {
		return api.ErrRange
	}
	return plain.Told(vector.Check(c.v))
}

// heard tells whether some vector says that a member has heard so many of another one.
func (m *toldStable) heard(who, of, n int) bool {
	return n == 0 || slices.ContainsFunc(m.taken, func(c call) bool { return c.who == who && c.v[of] >= n })
}

func (m *toldStable) heardByAll(of, n int) bool {
	for who := range m.n {
		if !m.heard(who, of, n) {
			return false
		}
	}
	return true
}

// greatest of those numbers that were told at a place, or 0, of which something is so.
func (m *toldStable) greatest(of int, is func(n int) bool) int {
	numbers := []int{0}
	for _, c := range m.taken {
		numbers = append(numbers, c.v[of])
	}
	slices.Sort(numbers)
	for i := len(numbers) - 1; i > 0; i-- {
		if is(numbers[i]) {
			return numbers[i]
		}
	}
	return 0
}

func (m *toldStable) row(who int) []int {
	var row []int
	for of := range api.Members {
		row = append(row, m.greatest(of, func(n int) bool { return m.heard(who, of, n) }))
	}
	return row
}

func (m *toldStable) least() []int {
	var least []int
	for of := range api.Members {
		least = append(least, m.greatest(of, func(n int) bool { return m.heardByAll(of, n) }))
	}
	return least
}

// pair is a stable, and what it is held against.
type pair struct {
	s *Stable
	m *toldStable
}

func newPair(t *testing.T, n int) pair {
	t.Helper()
	return pair{group(t, n), &toldStable{n: n}}
}

// hold tells both one thing, and holds what is wrong with it against each other.
func (p pair) hold(t *testing.T, c call) api.Errno {
	t.Helper()
	want := p.m.fault(c)
	if got := plain.Told(p.s.Told(c.who, c.v)); got != want {
		t.Fatalf("of %d, behind %v: %v told %v, want %v", p.m.n, p.m.taken, c, got, want)
	}
	if want == api.OK {
		p.m.taken = append(p.m.taken, call{c.who, slices.Clone(c.v)})
	}
	return want
}

func (p pair) holdLooks(t *testing.T) {
	t.Helper()
	var want [][]int
	for who := range p.m.n {
		want = append(want, p.m.row(who))
	}
	want = append(want, p.m.least())
	if got := looks(t, p.s); !slices.EqualFunc(got, want, slices.Equal) {
		t.Fatalf("of %d, behind %v: rows, and the least, are %v, want %v", p.m.n, p.m.taken, got, want)
	}
}

func (p pair) holdMay(t *testing.T, who, n int) {
	t.Helper()
	if got, err := p.s.May(who, n); got != p.m.heardByAll(who, n) || err != nil {
		t.Fatalf("of %d, behind %v: May(%d, %d) = %v, %v", p.m.n, p.m.taken, who, n, got, err)
	}
}

// small vectors have numbers below 3 at the first place and the last.
func small() [][]int {
	var all [][]int
	for first := range 3 {
		for last := range 3 {
			all = append(all, []int{first, 0, 0, 0, last})
		}
	}
	return all
}

// everyRow hands out each row of so many calls of members with small vectors.
func everyRow(n, length int, to func(row []call)) {
	var row []call
	var grow func()
	grow = func() {
		if len(row) == length {
			to(row)
			return
		}
		for who := range n {
			for _, v := range small() {
				row = append(row, call{who, v})
				grow()
				row = row[:len(row)-1]
			}
		}
	}
	grow()
}

// Between each two calls some are asked that are refused.
func TestEveryRowOfThree(t *testing.T) {
	for n := 2; n <= 3; n++ {
		refused := []call{
			{-1, every(3)}, {n, every(3)}, {0, []int{3, 3, 3, 3}}, {n - 1, []int{3, 3, 3, 3, 3, 3}},
			{0, []int{3, 3, 3, 3, -1}}, {n - 1, []int{3, 3, 3, 3, most + 1}}, {n, nil},
		}
		rows := 0
		everyRow(n, 3, func(row []call) {
			rows++
			p := newPair(t, n)
			for _, c := range row {
				for _, other := range refused {
					if p.hold(t, other) == api.OK {
						t.Fatalf("%v was taken", other)
					}
				}
				p.hold(t, c)
			}
			p.holdLooks(t)
			for count := range 4 {
				p.holdMay(t, 0, count)
				p.holdMay(t, n-1, count)
			}
		})
		if want := 9 * n * 9 * n * 9 * n; rows != want {
			t.Errorf("%d rows in a group of %d, want %d", rows, n, want)
		}
	}
}

// dice are numbers that look thrown, and are the same each time.
type dice uint64

func (d *dice) below(n int) int {
	*d = *d*6364136223846793005 + 1442695040888963407
	return int(uint64(*d>>33) % uint64(n))
}

// one of some numbers.
func (d *dice) one(of ...int) int { return of[d.below(len(of))] }

// number is small, or near the greatest, or any.
func (d *dice) number() int {
	switch d.below(4) {
	case 0:
		return most - d.below(3)
	case 1:
		return d.below(most + 1)
	}
	return d.below(20)
}

// throw is a call that may be wrong in any way.
func (d *dice) throw(n int) call {
	c := call{who: d.below(n)}
	for range api.Members {
		c.v = append(c.v, d.number())
	}
	if d.below(15) == 0 {
		c.who = d.one(math.MinInt, -1, n, n+1, math.MaxInt)
	}
	if d.below(15) == 0 {
		c.v[d.below(api.Members)] = d.one(math.MinInt, -1, most+1, math.MaxInt)
	}
	if d.below(15) == 0 {
		c.v = c.v[:d.below(api.Members)]
	} else if d.below(15) == 0 {
		c.v = append(c.v, d.number())
	}
	return c
}

func TestLongRows(t *testing.T) {
	d := dice(41)
	counts := map[string]int{}
	for round := range 400 {
		n := round%4 + 2
		p := newPair(t, n)
		for range 30 {
			counts[p.hold(t, d.throw(n)).Error()]++
			p.holdLooks(t)
			who := d.below(n)
			least := p.s.Least()[who]
			for _, count := range []int{0, least, min(least+1, most), most, d.number()} {
				p.holdMay(t, who, count)
			}
			if least > 0 && least < most {
				counts["some, not all"]++
			}
		}
	}
	for _, kind := range []string{"OK", "ErrRange", "ErrShape", "some, not all"} {
		if counts[kind] < 500 {
			t.Errorf("%s: %d times, too few", kind, counts[kind])
		}
	}
}

// In which order it is told how far all have come is not to be seen once all is told.
func TestInAnyOrder(t *testing.T) {
	d := dice(42)
	for round := range 200 {
		n := round%4 + 2
		var calls []call
		for range 12 {
			c := call{who: d.below(n)}
			for range api.Members {
				c.v = append(c.v, d.number())
			}
			calls = append(calls, c)
		}
		var want [][]int
		for range 4 {
			s := group(t, n)
			for _, c := range calls {
				tells(t, s, c.who, c.v...)
			}
			got := looks(t, s)
			if want == nil {
				want = got
			}
			if !slices.EqualFunc(got, want, slices.Equal) {
				t.Fatalf("rows, and the least, are %v, want %v", got, want)
			}
			for i := len(calls) - 1; i > 0; i-- {
				k := d.below(i + 1)
				calls[i], calls[k] = calls[k], calls[i]
			}
		}
	}
}

// hearers are a group of which each says words and hears those of others; said are all words, heard
// counts how many each has heard of each.
type hearers struct {
	each  []*cause.Cause
	said  []api.Said
	heard [][api.Members]int
	came  []map[int]bool // at each, which of what was said
}

func newHearers(t *testing.T, n int) *hearers {
	t.Helper()
	g := &hearers{heard: make([][api.Members]int, n)}
	for who := range n {
		c, err := cause.New(who)
		if err != nil {
			t.Fatal(err)
		}
		g.each = append(g.each, c)
		g.came = append(g.came, map[int]bool{})
	}
	return g
}

func (g *hearers) says(t *testing.T, who int) {
	t.Helper()
	// The word tells who said it, so that it can be counted when it is heard.
	s, err := g.each[who].Say(who + 1)
	if err != nil {
		t.Fatal(err)
	}
	g.came[who][len(g.said)] = true
	g.said = append(g.said, s)
	g.heard[who][who]++
}

// gets has what was said come to a member, if it has not come to it.
func (g *hearers) gets(t *testing.T, who, i int) {
	t.Helper()
	if g.came[who][i] {
		return
	}
	g.came[who][i] = true
	words, err := g.each[who].Take(g.said[i])
	if err != nil {
		t.Fatal(err)
	}
	for _, word := range words {
		g.heard[who][word-1]++
	}
}

// Of a group that hears, words may be forgotten just if all heard them, once it is told how far all
// have come; while some of that is not told, never too many.
func TestOfAGroupThatHears(t *testing.T) {
	d := dice(43)
	some := 0
	for round := range 200 {
		n := round%4 + 2
		g, s := newHearers(t, n), group(t, n)
		for range 40 {
			if d.below(3) == 0 && len(g.said) < api.MaxOnWay {
				g.says(t, d.below(n))
			} else if len(g.said) > 0 {
				g.gets(t, d.below(n), d.below(len(g.said)))
			}
			who := d.below(n)
			tells(t, s, who, g.each[who].Clock()...)
			for of, least := range s.Least()[:n] {
				if least > g.heardByAll(of) {
					t.Fatalf("%d words of %d may be forgotten, and heard are %v", least, of, g.heard)
				}
			}
		}
		for who := range n {
			tells(t, s, who, g.each[who].Clock()...)
		}
		for of := range n {
			all := g.heardByAll(of)
			mayUpTo(t, s, of, all)
			if all > 0 && all < g.heard[of][of] {
				some++
			}
		}
	}
	if some < 100 {
		t.Errorf("of %d members some words were heard by all, and not all, too few", some)
	}
}

func (g *hearers) heardByAll(of int) int {
	least := g.heard[0][of]
	for who := range g.heard {
		least = min(least, g.heard[who][of])
	}
	return least
}

// A Sender that keeps no more what may be forgotten has all that any other one can lack.
func TestWhatIsFreeIsNotAskedFor(t *testing.T) {
	d := dice(44)
	freed := 0
	for round := range 100 {
		n := round%4 + 2
		s, from := group(t, n), again.NewSender()
		to, heard := make([]*again.Hearer, n), make([]int, n)
		for who := 1; who < n; who++ {
			to[who] = again.NewHearer()
		}
		said := 0
		for range 80 {
			if number, err := from.Say(d.below(api.MaxWords) + 1); err == nil {
				said = number
				tells(t, s, 0, at(0, said)...)
			}
			who := 1 + d.below(n-1)
			lacks, err := to[who].Lacks(said)
			if err != nil {
				t.Fatal(err)
			}
			for _, number := range lacks[:min(len(lacks), d.below(4))] {
				word, err := from.Ask(number)
				if err != nil {
					t.Fatalf("member %d lacks %d, and the sender told %v", who, number, err)
				}
				words, err := to[who].Take(number, word)
				if err != nil {
					t.Fatal(err)
				}
				heard[who] += len(words)
			}
			tells(t, s, who, at(0, heard[who])...)
			least := s.Least()[0]
			may(t, s, 0, least, true)
			if err := from.Free(least); err != nil {
				t.Fatalf("Free(%d) told %v", least, err)
			}
			freed = max(freed, least)
		}
	}
	if freed < 20 {
		t.Errorf("at most %d words were free, too few", freed)
	}
}
