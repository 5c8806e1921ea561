package flush

import (
	"math"
	"math/bits"
	"slices"
	"testing"

	"mootbell/api"
	"mootbell/view"
)

// ear is that one heard a word in the View of a number: of its own, if it said it.
type ear struct {
	who, n, word int
	own          bool
}

// toldFlush is F1 and F2 in another way: who is in each View, with a bit for each, and all that was
// heard in any of them, in the order in which that came, from which each answer is worked out anew.
type toldFlush struct {
	views []uint
	ears  []ear
	row   []call // that were taken, to tell of
}

func newTold(n int) *toldFlush { return &toldFlush{views: []uint{1<<n - 1}} }

func (m *toldFlush) last() int { return len(m.views) - 1 }

func (m *toldFlush) isIn(who int) bool { return m.views[m.last()]>>who&1 == 1 }

func (m *toldFlush) heard(who, n int) []int {
	var words []int
	for _, e := range m.ears {
		if e.who == who && e.n == n {
			words = append(words, e.word)
		}
	}
	return words
}

func (m *toldFlush) wasSaid(word int) bool {
	return slices.ContainsFunc(m.ears, func(e ear) bool { return e.own && e.word == word })
}

// by is who heard a word in the last View, with a bit for each.
func (m *toldFlush) by(word int) uint {
	var set uint
	for _, e := range m.ears {
		if e.word == word && e.n == m.last() {
			set |= 1 << e.who
		}
	}
	return set
}

// asSet is who is told, with a bit for each, and what is wrong with that.
func asSet(has []int) (uint, api.Errno) {
	if len(has) == 0 {
		return 0, api.ErrNone
	}
	var set uint
	for _, who := range has {
		if who != min(max(who, 0), 4) {
			return 0, api.ErrRange
		}
		if set>>who != 0 {
			return 0, api.ErrShape
		}
		set |= 1 << who
	}
	return set, api.OK
}

// fault of a call; rows are too short for ErrFull.
func (m *toldFlush) fault(c call) api.Errno {
	if c.what == "change" {
		set, errno := asSet(c.has)
		was := m.views[m.last()]
		if errno == api.OK && bits.OnesCount(was&^set) >= bits.OnesCount(was&set) {
			return api.ErrOut
		}
		return errno
	}
	switch {
	case c.who < 0, c.who > 4, c.word < 1, c.word > 30:
		return api.ErrRange
	case !m.isIn(c.who):
		return api.ErrOut
	case c.what == "say" && m.wasSaid(c.word):
		return api.ErrClash
	case c.what == "give" && m.by(c.word) == 0:
		return api.ErrNone
	case c.what == "give" && m.by(c.word)>>c.who&1 == 1:
		return api.ErrClash
	}
	return api.OK
}

// atChange is what one hears when some stay: the words of the last View that any of those heard, but
// for what it heard itself.
func (m *toldFlush) atChange(who int, stay uint) []ear {
	var more []ear
	for _, e := range m.ears {
		if set := m.by(e.word); e.own && e.n == m.last() && set&stay != 0 && set>>who&1 == 0 {
			more = append(more, ear{who: who, n: e.n, word: e.word})
		}
	}
	return more
}

func (m *toldFlush) change(has []int) told {
	set, _ := asSet(has)
	stay := set & m.views[m.last()]
	var more []ear
	for who := range api.Members {
		if stay>>who&1 == 1 {
			more = append(more, m.atChange(who, stay)...)
		}
	}
	m.ears = append(m.ears, more...)
	m.views = append(m.views, set)
	return told{v: m.view()}
}

func (m *toldFlush) view() api.View {
	v := api.View{N: m.last()}
	for who := range api.Members {
		if m.isIn(who) {
			v.Has = append(v.Has, who)
		}
	}
	return v
}

func (m *toldFlush) do(c call) told {
	if errno := m.fault(c); errno != api.OK {
		return told{errno: errno}
	}
	m.row = append(m.row, c)
	if c.what == "change" {
		return m.change(c.has)
	}
	m.ears = append(m.ears, ear{who: c.who, n: m.last(), word: c.word, own: c.what == "say"})
	return told{}
}

func (m *toldFlush) looks() [][]int {
	v := m.view()
	seen := [][]int{{v.N}, v.Has}
	for who := range api.Members {
		for n := range m.views {
			seen = append(seen, m.heard(who, n))
		}
	}
	return seen
}

// pair is a group, and what it is held against.
type pair struct {
	f *Flush
	m *toldFlush
}

func newPair(t *testing.T, n int) pair {
	t.Helper()
	return pair{group(t, n), newTold(n)}
}

// hold asks both for one thing, and holds the answers against each other.
func (p pair) hold(t *testing.T, c call) told {
	t.Helper()
	want := p.m.do(c)
	if got := asked(p.f, c); !got.is(want) {
		t.Fatalf("%v = %v, want %v, behind %v", c, got, want, p.m.row)
	}
	return want
}

func (p pair) holdLooks(t *testing.T) {
	t.Helper()
	want := p.m.looks()
	if got := looks(t, p.f); !slices.EqualFunc(got, want, slices.Equal) {
		t.Fatalf("there is %v, want %v, behind %v", got, want, p.m.row)
	}
}

// everyRow hands out each row of so many calls that a group of n takes one behind the other.
func everyRow(n, length int, kinds []call, to func(row []call)) {
	var grow func(row []call)
	grow = func(row []call) {
		if len(row) == length {
			to(row)
			return
		}
		m := newTold(n)
		for _, c := range row {
			m.do(c)
		}
		for _, c := range kinds {
			if m.fault(c) == api.OK {
				grow(append(slices.Clip(row), c))
			}
		}
	}
	grow(nil)
}

// Three members and one who may come, two words, and each row of calls that is taken; between each two
// calls all others are asked that are refused there.
func TestEveryShortRow(t *testing.T) {
	var kinds []call
	for who := -1; who <= api.Members; who++ {
		for _, word := range []int{0, 1, 30, 31} {
			kinds = append(kinds, say(who, word), give(who, word))
		}
	}
	kinds = append(kinds, change(), change(0, 0), change(0, api.Members), change(0, 1), change(1, 2), change(0, 1, 2), change(1, 2, 3))
	rows := 0
	everyRow(3, 5, kinds, func(row []call) {
		rows++
		p := newPair(t, 3)
		for _, c := range row {
			for _, other := range kinds {
				if errno := p.m.fault(other); errno != api.OK {
					p.hold(t, other)
				}
			}
			p.hold(t, c)
		}
		p.holdLooks(t)
	})
	if rows < 10_000 {
		t.Errorf("%d rows, too few", rows)
	}
}

// Every way in which two words can be heard by three members who hear each in any order, and every
// Change behind it.
func TestEveryHearingAheadOfAChange(t *testing.T) {
	kinds := []call{give(0, 8), give(1, 7), give(2, 7), give(2, 8)}
	rows := 0
	for length := range len(kinds) + 1 {
		everyHearing(length, kinds, func(row []call) {
			for set := uint(1); set < 1<<api.Members; set++ {
				p := newPair(t, 3)
				p.hold(t, say(0, 7))
				p.hold(t, say(1, 8))
				for _, c := range row {
					p.hold(t, c)
				}
				p.hold(t, change(members(set)...))
				p.holdLooks(t)
				rows++
			}
		})
	}
	// Of four hearings none, one, two, three and all, in each order, and 31 groups behind.
	if want := 31 * (1 + 4 + 12 + 24 + 24); rows != want {
		t.Errorf("%d rows, want %d", rows, want)
	}
}

// everyHearing hands out each row of so many of some calls, none of them twice.
func everyHearing(length int, kinds []call, to func(row []call)) {
	var row []call
	var used uint
	var grow func()
	grow = func() {
		if len(row) == length {
			to(row)
			return
		}
		for i, c := range kinds {
			if used>>i&1 == 1 {
				continue
			}
			row, used = append(row, c), used|1<<i
			grow()
			row, used = row[:len(row)-1], used&^(1<<i)
		}
	}
	grow()
}

// members of a number: a bit for each.
func members(set uint) []int {
	var has []int
	for who := range api.Members {
		if set>>who&1 == 1 {
			has = append(has, who)
		}
	}
	return has
}

// dice are numbers that look thrown, and are the same each time.
type dice uint64

func (d *dice) below(n int) int {
	*d = *d*6364136223846793005 + 1442695040888963407
	return int(uint64(*d>>33) % uint64(n))
}

// one of some numbers.
func (d *dice) one(of ...int) int { return of[d.below(len(of))] }

// group is of members that are thrown, or of nearly all: else few Changes would be taken.
func (d *dice) group() []int {
	set := uint(d.below(1 << api.Members))
	if d.below(3) > 0 {
		set |= uint(d.below(1 << api.Members))
	}
	has := members(set)
	if len(has) > 0 && d.below(12) == 0 {
		has[d.below(len(has))] = d.one(math.MinInt, -1, 0, 2, 4, api.Members, math.MaxInt)
	}
	return has
}

// throw is a call that may be wrong in any way, of one of some words.
func (d *dice) throw(words int) call {
	kind := d.below(10)
	if kind == 0 {
		return change(d.group()...)
	}
	c := say(d.below(api.Members), api.MaxWords-d.below(words))
	if kind > 3 {
		c.what = "give"
	}
	if d.below(25) == 0 {
		c.who = d.one(math.MinInt, -1, api.Members, api.Members+1, math.MaxInt)
	}
	if d.below(25) == 0 {
		c.word = d.one(math.MinInt, -1, 0, api.MaxWords+1, math.MaxInt)
	}
	return c
}

func TestLongRows(t *testing.T) {
	d := dice(31)
	counts := map[string]int{}
	for range 1_500 {
		words := d.below(api.MaxWords) + 1
		p := newPair(t, d.below(4)+2)
		for range 5 * words {
			c := d.throw(words)
			ahead := len(p.m.ears)
			got := p.hold(t, c)
			counts[c.what+" "+got.errno.Error()]++
			if c.what == "change" && got.errno == api.OK {
				counts["heard by it "+[]string{"none", "one", "several"}[min(len(p.m.ears)-ahead, 2)]]++
			}
			p.holdLooks(t)
		}
	}
	for _, kind := range []string{
		"say OK", "say ErrRange", "say ErrOut", "say ErrClash",
		"give OK", "give ErrRange", "give ErrOut", "give ErrNone", "give ErrClash",
		"change OK", "change ErrNone", "change ErrRange", "change ErrShape", "change ErrOut",
		"heard by it none", "heard by it one", "heard by it several",
	} {
		if counts[kind] < 50 {
			t.Errorf("%s: %d times, too few", kind, counts[kind])
		}
	}
}

// sorted is a list from its least number on.
func sorted(l []int) []int {
	l = slices.Clone(l)
	slices.Sort(l)
	return l
}

// wasHeard is what a member heard in the View of a number.
func wasHeard(t *testing.T, f *Flush, who, n int) []int {
	t.Helper()
	words, err := f.Heard(who, n)
	if err != nil {
		t.Fatalf("Heard(%d, %d) told %v", who, n, err)
	}
	return words
}

// Who goes on together heard the same, if not in the same order, and each of them behind what it had
// heard; the Views are a chain; and nobody hears a word twice, nor one of another View.
func TestWhoGoesOnTogetherHeardTheSame(t *testing.T) {
	d := dice(32)
	unlike, together := 0, 0
	for round := range 300 {
		f := group(t, round%4+2)
		chain := []api.View{f.View()}
		in := map[int]int{} // each word: the View that it was said in
		for range 150 {
			c := d.throw(api.MaxWords)
			now := f.View()
			var had [api.Members][]int
			for who := range api.Members {
				had[who] = wasHeard(t, f, who, now.N)
			}
			got := asked(f, c)
			if got.errno != api.OK {
				continue
			}
			if c.what == "say" {
				in[c.word] = now.N
			}
			if c.what != "change" {
				continue
			}
			chain = append(chain, got.v)
			both, err := view.Both(now, got.v)
			if err != nil || len(both) == 0 {
				t.Fatalf("of %v and %v in both are %v, %v", now, got.v, both, err)
			}
			same := sorted(wasHeard(t, f, both[0], now.N))
			for who := range api.Members {
				words := wasHeard(t, f, who, now.N)
				if !slices.Equal(words[:len(had[who])], had[who]) {
					t.Fatalf("member %d heard %v in %v, and had heard %v", who, words, now, had[who])
				}
				stays := slices.Contains(both, who)
				if stays && !slices.Equal(sorted(words), same) || !stays && len(words) > len(had[who]) {
					t.Fatalf("%v go on from %v, where %d heard %v, and %d %v", both, now, both[0], same, who, words)
				}
				if stays {
					together++
					if !slices.Equal(sorted(had[who]), same) {
						unlike++
					}
				}
			}
		}
		if at, err := view.Chain(chain[:min(len(chain), api.MaxEvents)]); at != 0 || err != nil {
			t.Fatalf("Chain of the Views = %d, %v: %v", at, err, chain)
		}
		for who := range api.Members {
			for n := range chain {
				words := wasHeard(t, f, who, n)
				if slices.ContainsFunc(words, func(word int) bool { return in[word] != n }) || len(slices.Compact(sorted(words))) != len(words) {
					t.Fatalf("member %d heard %v in the View of number %d; said were %v", who, words, n, in)
				}
			}
		}
	}
	if unlike < 300 || together < 3_000 {
		t.Errorf("%d went on, and %d of them heard more by it, too few", together, unlike)
	}
}
