package picture

import (
	"math"
	"slices"
	"testing"

	"mootbell/api"
)

// item is gold, or a mark, that was sent: at which step that was, and at which it came (0: not yet).
type item struct{ from, to, n, sent, came int }

// toldPicture is P1 and P2 in another way: all that was ever sent, and the step at which each member wrote
// down its gold, from which each answer is worked out anew. What is on a picture's ways is what was sent
// ahead of the writing down of who sent it, and came behind that of who got it: marks have no part in that.
type toldPicture struct {
	start []int
	items []item
	wrote [api.Members]int // 0: not yet
	step  int
	row   []call // that were taken, to tell of
}

func newTold(gold []int) *toldPicture { return &toldPicture{start: slices.Clone(gold)} }

// goldAt is what a member had behind a step.
func (m *toldPicture) goldAt(who, step int) int {
	n := m.start[who]
	for _, it := range m.items {
		if it.from == who && it.sent <= step {
			n -= it.n
		}
		if it.to == who && it.came > 0 && it.came <= step {
			n += it.n
		}
	}
	return n
}

// first is the place of the first that is on a way, or -1.
func (m *toldPicture) first(from, to int) int {
	return slices.IndexFunc(m.items, func(it item) bool { return it.from == from && it.to == to && it.came == 0 })
}

func (m *toldPicture) onWay(from, to int) []int {
	var l []int
	for _, it := range m.items {
		if it.from == from && it.to == to && it.came == 0 {
			l = append(l, it.n)
		}
	}
	return l
}

func (m *toldPicture) isMember(who int) bool { return who == min(max(who, 0), len(m.start)-1) }

func (m *toldPicture) isBegun() bool { return m.wrote != [api.Members]int{} }

// fault of a call.
func (m *toldPicture) fault(c call) api.Errno {
	if !m.isMember(c.from) || c.what != "begin" && !m.isMember(c.to) {
		return api.ErrRange
	}
	if c.what == "begin" {
		if m.isBegun() {
			return api.ErrState
		}
		return api.OK
	}
	switch {
	case c.from == c.to:
		return api.ErrShape
	case c.what == "come" && m.first(c.from, c.to) < 0:
		return api.ErrNone
	case c.what == "come":
		return api.OK
	case c.n < 1, c.n > 1_000:
		return api.ErrRange
	case m.goldAt(c.from, m.step) < c.n:
		return api.ErrNone
	case len(m.onWay(c.from, c.to)) > 39:
		return api.ErrFull
	}
	return api.OK
}

// writes lets one write down its gold at this step.
func (m *toldPicture) writes(who int) {
	m.wrote[who] = m.step
	for to := range m.start {
		if to != who {
			m.items = append(m.items, item{from: who, to: to, sent: m.step})
		}
	}
}

func (m *toldPicture) do(c call) told {
	if errno := m.fault(c); errno != api.OK {
		return told{errno: errno}
	}
	m.row = append(m.row, c)
	m.step++
	switch c.what {
	case "pay":
		m.items = append(m.items, item{from: c.from, to: c.to, n: c.n, sent: m.step})
		return told{}
	case "begin":
		m.writes(c.from)
		return told{}
	}
	it := &m.items[m.first(c.from, c.to)]
	it.came = m.step
	n := it.n
	if n == 0 && m.wrote[c.to] == 0 {
		m.writes(c.to)
	}
	return told{n: n}
}

// isDone counts the marks that came: each member sends one on each of its ways.
func (m *toldPicture) isDone() bool {
	marks := 0
	for _, it := range m.items {
		if it.n == 0 && it.came > 0 {
			marks++
		}
	}
	return marks == len(m.start)*(len(m.start)-1)
}

func (m *toldPicture) sum() (s api.Sum) {
	for who := range m.start {
		s.Had += m.goldAt(who, m.wrote[who])
	}
	for _, it := range m.items {
		if it.sent < m.wrote[it.from] && it.came > m.wrote[it.to] {
			s.OnWay += it.n
		}
	}
	return s
}

func (m *toldPicture) looks() [][]int {
	var seen [][]int
	for who := range m.start {
		seen = append(seen, []int{m.goldAt(who, m.step)})
	}
	for from := range m.start {
		for to := range m.start {
			if from != to {
				seen = append(seen, m.onWay(from, to))
			}
		}
	}
	if !m.isDone() {
		return append(seen, []int{0, 0, int(api.ErrState)})
	}
	s := m.sum()
	return append(seen, []int{s.Had, s.OnWay, 0})
}

// pair is members, and what they are held against.
type pair struct {
	p *Picture
	m *toldPicture
}

func newPair(t *testing.T, gold ...int) pair {
	t.Helper()
	return pair{group(t, gold...), newTold(gold)}
}

// hold asks both for one thing, and holds the answers against each other.
func (p pair) hold(t *testing.T, c call) told {
	t.Helper()
	want := p.m.do(c)
	if got := asked(p.p, c); got != want {
		t.Fatalf("%v = %v, want %v, with %v behind %v", c, got, want, p.m.start, p.m.row)
	}
	return want
}

func (p pair) holdLooks(t *testing.T) {
	t.Helper()
	want := p.m.looks()
	if got := looks(t, p.p); !slices.EqualFunc(got, want, slices.Equal) {
		t.Fatalf("there is %v, want %v, with %v behind %v", got, want, p.m.start, p.m.row)
	}
}

// everyRow hands out each row of at most so many calls that are taken one behind the other: a row ends
// ahead of that where none of the calls is taken.
func everyRow(gold []int, length int, ahead, kinds []call, to func(row []call)) {
	var grow func(row []call)
	grow = func(row []call) {
		m := newTold(gold)
		for _, c := range row {
			m.do(c)
		}
		over := true
		for _, c := range kinds {
			if len(row) < length && m.fault(c) == api.OK {
				over = false
				grow(append(slices.Clip(row), c))
			}
		}
		if over {
			to(row)
		}
	}
	grow(ahead)
}

// Two members, and each row of calls that is taken; between each two calls all others are asked that are
// refused there.
func TestEveryShortRow(t *testing.T) {
	kinds := []call{pay(0, 1, 1), pay(1, 0, 1), pay(1, 0, 2), come(0, 1), come(1, 0), begin(0), begin(1)}
	for _, who := range []int{-1, 2} {
		kinds = append(kinds, begin(who), come(who, 0), come(0, who), pay(who, 0, 1), pay(0, who, 1), pay(0, 1, -who))
	}
	kinds = append(kinds, come(0, 0), pay(1, 1, 1), pay(0, 1, 1_001))
	rows, done := 0, 0
	everyRow([]int{1, 2}, 7, nil, kinds, func(row []call) {
		rows++
		p := newPair(t, 1, 2)
		for _, c := range row {
			for _, other := range kinds {
				if p.m.fault(other) != api.OK {
					p.hold(t, other)
				}
			}
			p.hold(t, c)
		}
		p.holdLooks(t)
		if p.p.Done() {
			done++
		}
	})
	if rows < 5_000 || done < 500 {
		t.Errorf("%d rows, %d pictures that are done, too few", rows, done)
	}
}

// everyWay between members, each way of its own.
func everyWay(n int) []way {
	var ways []way
	for from := range n {
		for to := range n {
			if from != to {
				ways = append(ways, way{from, to})
			}
		}
	}
	return ways
}

// Three members, gold on one way, on another one behind the Begin, and each order in which it comes with all
// the marks.
func TestEveryOrderOfComing(t *testing.T) {
	gold := []int{10, 20, 30}
	var kinds []call
	for _, w := range everyWay(3) {
		kinds = append(kinds, come(w.from, w.to))
	}
	rows, moving := 0, 0
	for who := range 3 {
		for _, w := range everyWay(3) {
			for _, later := range everyWay(3) {
				ahead := []call{pay(w.from, w.to, 3), begin(who), pay(later.from, later.to, 5)}
				everyRow(gold, 100, ahead, kinds, func(row []call) {
					rows++
					p := newPair(t, gold...)
					for _, c := range row {
						p.hold(t, c)
					}
					p.holdLooks(t)
					sum, err := p.p.Sum()
					if err != nil || sum.Had+sum.OnWay != 60 {
						t.Fatalf("Sum() = %v, %v, of 60, behind %v", sum, err, row)
					}
					if sum.OnWay > 0 {
						moving++
					}
				})
			}
		}
	}
	if rows < 5_000 || moving < 1_000 {
		t.Errorf("%d rows, %d with gold on the way, too few", rows, moving)
	}
}

// dice are numbers that look thrown, and are the same each time.
type dice uint64

func (d *dice) below(n int) int {
	*d = *d*6364136223846793005 + 1442695040888963407
	return int(uint64(*d>>33) % uint64(n))
}

// one of some numbers.
func (d *dice) one(of ...int) int { return of[d.below(len(of))] }

// gold of so many members, the edges more often than others.
func (d *dice) gold(n int) []int {
	var l []int
	for range n {
		l = append(l, d.one(0, 1, api.MaxGold, d.below(50), d.below(api.MaxGold+1)))
	}
	return l
}

// throw is a call that may be wrong in any way, among n members: of ten calls so many are a Pay, of at most
// so much where it is not at an edge.
func (d *dice) throw(n, payments, most int) call {
	c := come(d.below(n), d.below(n))
	switch kind := d.below(100); {
	case kind < 2:
		c = begin(d.below(n))
	case kind%10 < payments:
		c = pay(c.from, c.to, 1+d.below(most))
	}
	if d.below(40) == 0 {
		c.from = d.one(math.MinInt, -1, n, n+1, api.Members, math.MaxInt)
	}
	if d.below(40) == 0 && c.what != "begin" {
		c.to = d.one(math.MinInt, -1, n, n+1, api.Members, math.MaxInt)
	}
	if d.below(40) == 0 && c.what == "pay" {
		c.n = d.one(math.MinInt, -1, 0, api.MaxGold, api.MaxGold+1, math.MaxInt)
	}
	return c
}

func TestLongRows(t *testing.T) {
	d := dice(41)
	counts := map[string]int{}
	for range 400 {
		n := d.below(4) + 2
		p := newPair(t, d.gold(n)...)
		// With many payments, and small ones, the ways fill up; with few ones they run dry.
		payments, most := d.one(2, 4, 5, 6, 9), d.one(1, 20, api.MaxGold)
		for range 150 * n {
			c := d.throw(n, payments, most)
			got := p.hold(t, c)
			counts[c.what+" "+got.errno.Error()]++
			if c.what == "come" && got == (told{}) {
				counts["a mark came"]++
			}
			p.holdLooks(t)
		}
		if p.p.Done() {
			counts["done"]++
		}
	}
	for _, kind := range []string{
		"pay OK", "pay ErrRange", "pay ErrShape", "pay ErrNone", "pay ErrFull",
		"come OK", "come ErrRange", "come ErrShape", "come ErrNone",
		"begin OK", "begin ErrRange", "begin ErrState", "a mark came", "done",
	} {
		if counts[kind] < 50 {
			t.Errorf("%s: %d times, too few", kind, counts[kind])
		}
	}
}

// all gold that there is, with members and on the ways.
func all(t *testing.T, p *Picture) int {
	t.Helper()
	seen := looks(t, p)
	n := 0
	for _, l := range seen[:len(seen)-1] {
		for _, gold := range l {
			n += gold
		}
	}
	return n
}

// The gold of all stays the same whatever is asked, and a picture that is done shows just that, for good.
func TestNoGoldIsLost(t *testing.T) {
	d := dice(42)
	done, moving := 0, 0
	for range 1_000 {
		n := d.below(4) + 2
		gold := d.gold(n)
		p := group(t, gold...)
		want := 0
		for _, g := range gold {
			want += g
		}
		var shown *api.Sum
		for range 60 * n {
			asked(p, d.throw(n, 4, 50))
			if got := all(t, p); got != want {
				t.Fatalf("there is gold of %d, want %d", got, want)
			}
			sum, err := p.Sum()
			if err != nil {
				continue
			}
			if sum.Had+sum.OnWay != want || sum.Had < 0 || sum.OnWay < 0 || shown != nil && *shown != sum {
				t.Fatalf("Sum() = %v, of %d; it showed %v", sum, want, shown)
			}
			shown = &sum
		}
		if shown != nil {
			done++
			if shown.OnWay > 0 {
				moving++
			}
		}
	}
	if done < 300 || moving < 100 {
		t.Errorf("%d pictures, %d with gold on the way, too few", done, moving)
	}
}
