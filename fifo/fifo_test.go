package fifo

import (
	"math"
	"slices"
	"testing"

	"mootbell/api"
	"mootbell/plain"
)

// step is a word that comes, and what is asked for of Take, and of Waits behind it.
type step struct {
	who, n, word int
	heard        []int
	errno        api.Errno
	waits        int
}

// ones is Next of one that heard nothing.
var ones = []int{1, 1, 1, 1, 1}

// look holds Next and Waits against what is asked for.
func look(t *testing.T, f *Fifo, next []int, waits int) {
	t.Helper()
	if got := f.Next(); !slices.Equal(got, next) {
		t.Errorf("Next = %v, want %v", got, next)
	}
	if got := f.Waits(); got != waits {
		t.Errorf("Waits = %d, want %d", got, waits)
	}
}

// take holds one Take against what is asked for.
func take(t *testing.T, f *Fifo, s step) {
	t.Helper()
	next := f.Next()
	heard, err := f.Take(s.who, s.n, s.word)
	if got := plain.Told(err); got != s.errno {
		t.Fatalf("Take(%d, %d, %d) told %v, want %v", s.who, s.n, s.word, got, s.errno)
	}
	if !slices.Equal(heard, s.heard) || err != nil && heard != nil {
		t.Fatalf("Take(%d, %d, %d) = %v, want %v", s.who, s.n, s.word, heard, s.heard)
	}
	if len(s.heard) > 0 {
		next[s.who] += len(s.heard)
	}
	look(t, f, next, s.waits)
}

// full has MaxOnWay words that wait, of members 0 and 1, and has heard nothing: the words 2, 3
// and so on of each.
func full(t *testing.T) *Fifo {
	t.Helper()
	f := New()
	for i := range api.MaxOnWay {
		take(t, f, step{who: i % 2, n: i/2 + 2, word: i%api.MaxWords + 1, waits: i + 1})
	}
	return f
}

func TestNewHeardNothing(t *testing.T) {
	look(t, New(), ones, 0)
}

func TestTaken(t *testing.T) {
	for _, c := range []struct {
		name  string
		steps []step
		next  []int
	}{
		{"in order", []step{
			{0, 1, 7, []int{7}, 0, 0},
			{0, 2, 3, []int{3}, 0, 0},
			{0, 3, 30, []int{30}, 0, 0},
		}, []int{4, 1, 1, 1, 1}},
		{"from the last to the first", []step{
			{4, 4, 1, nil, 0, 1},
			{4, 3, 2, nil, 0, 2},
			{4, 2, 3, nil, 0, 3},
			{4, 1, 4, []int{4, 3, 2, 1}, 0, 0},
		}, []int{1, 1, 1, 1, 5}},
		{"one word at several places", []step{
			{2, 2, 9, nil, 0, 1},
			{2, 1, 9, []int{9, 9}, 0, 0},
			{2, 3, 9, []int{9}, 0, 0},
			{3, 1, 9, []int{9}, 0, 0},
		}, []int{1, 1, 4, 2, 1}},
		{"several members between each other", []step{
			{0, 2, 11, nil, 0, 1},
			{1, 1, 21, []int{21}, 0, 1},
			{3, 3, 13, nil, 0, 2},
			{1, 3, 23, nil, 0, 3},
			{0, 1, 10, []int{10, 11}, 0, 2},
			{3, 2, 12, nil, 0, 3},
			{1, 2, 22, []int{22, 23}, 0, 2},
			{3, 1, 14, []int{14, 12, 13}, 0, 0},
			{4, 1, 1, []int{1}, 0, 0},
		}, []int{3, 4, 1, 4, 2}},
		{"up to a gap", []step{
			{0, 5, 5, nil, 0, 1},
			{0, 3, 3, nil, 0, 2},
			{0, 6, 6, nil, 0, 3},
			{0, 2, 2, nil, 0, 4},
			{0, 1, 1, []int{1, 2, 3}, 0, 2},
			{0, 4, 4, []int{4, 5, 6}, 0, 0},
		}, []int{7, 1, 1, 1, 1}},
		{"followed by none that wait", []step{
			{0, 3, 3, nil, 0, 1},
			{1, 2, 2, nil, 0, 2},
			{0, 1, 1, []int{1}, 0, 2},
		}, []int{2, 1, 1, 1, 1}},
		{"first and last of all", []step{
			{0, api.MaxCount, api.MaxWords, nil, 0, 1},
			{api.Members - 1, api.MaxCount, 1, nil, 0, 2},
			{0, 1, 1, []int{1}, 0, 2},
			{api.Members - 1, 1, api.MaxWords, []int{api.MaxWords}, 0, 2},
		}, []int{2, 1, 1, 1, 2}},
	} {
		t.Run(c.name, func(t *testing.T) {
			f := New()
			for _, s := range c.steps {
				take(t, f, s)
			}
			look(t, f, c.next, c.steps[len(c.steps)-1].waits)
		})
	}
}

func TestUpToTheLastNumber(t *testing.T) {
	f := New()
	take(t, f, step{2, api.MaxCount, 30, nil, 0, 1})
	for n := 1; n < api.MaxCount-1; n++ {
		heard, err := f.Take(2, n, n%api.MaxWords+1)
		if err != nil || len(heard) != 1 || heard[0] != n%api.MaxWords+1 {
			t.Fatalf("Take of number %d = %v, %v", n, heard, err)
		}
	}
	take(t, f, step{2, api.MaxCount - 1, 29, []int{29, 30}, 0, 0})
	look(t, f, []int{1, 1, api.MaxCount + 1, 1, 1}, 0)
	take(t, f, step{2, api.MaxCount + 1, 1, nil, api.ErrRange, 0})
	take(t, f, step{2, api.MaxCount, 30, nil, api.ErrClash, 0})
	take(t, f, step{1, 1, 1, []int{1}, 0, 0})
}

func TestFull(t *testing.T) {
	const all = api.MaxOnWay
	ofOne := func(who int) []int {
		var words []int
		for i := who; i < all; i += 2 {
			words = append(words, i%api.MaxWords+1)
		}
		return words
	}
	for _, c := range []struct {
		name  string
		steps []step
	}{
		{"the next one of its member", []step{{0, 1, 5, append([]int{5}, ofOne(0)...), 0, all / 2}}},
		{"the next ones of both", []step{
			{1, 1, 6, append([]int{6}, ofOne(1)...), 0, all / 2},
			{0, 1, 5, append([]int{5}, ofOne(0)...), 0, 0},
		}},
		{"the next one of another member", []step{
			{2, 1, 5, []int{5}, 0, all},
			{2, 2, 6, []int{6}, 0, all},
		}},
		{"not the next of its member", []step{
			{0, all/2 + 2, 5, nil, api.ErrFull, all},
			{0, api.MaxCount, 5, nil, api.ErrFull, all},
		}},
		{"not the next of another member", []step{
			{4, 2, 5, nil, api.ErrFull, all},
			{4, 1, 5, []int{5}, 0, all},
			{4, 3, 5, nil, api.ErrFull, all},
			{4, 2, 5, []int{5}, 0, all},
		}},
		{"room again", []step{
			{0, 100, 5, nil, api.ErrFull, all},
			{0, 1, 5, append([]int{5}, ofOne(0)...), 0, all / 2},
			{0, 100, 5, nil, 0, all/2 + 1},
		}},
	} {
		t.Run(c.name, func(t *testing.T) {
			f := full(t)
			for _, s := range c.steps {
				take(t, f, s)
			}
		})
	}
}

func TestJustFull(t *testing.T) {
	f := New()
	for n := 2; n <= api.MaxOnWay+1; n++ {
		take(t, f, step{who: 3, n: n, word: 1, waits: n - 1})
	}
	take(t, f, step{3, api.MaxOnWay + 2, 1, nil, api.ErrFull, api.MaxOnWay})
	take(t, f, step{3, 1, 1, slices.Repeat([]int{1}, api.MaxOnWay+1), 0, 0})
	take(t, f, step{3, api.MaxOnWay + 2, 1, []int{1}, 0, 0})
}

// some heard two words of member 1, and one of its words waits.
func some(t *testing.T) *Fifo {
	t.Helper()
	f := New()
	take(t, f, step{1, 1, 10, []int{10}, 0, 0})
	take(t, f, step{1, 2, 20, []int{20}, 0, 0})
	take(t, f, step{1, 4, 30, nil, 0, 1})
	return f
}

func TestRange(t *testing.T) {
	members := []int{math.MinInt, math.MinInt32, -1, api.Members, api.Members + 1, math.MaxInt32, math.MaxInt}
	numbers := []int{math.MinInt, -api.MaxCount, -1, 0, api.MaxCount + 1, math.MaxInt}
	words := []int{math.MinInt, -api.MaxWords, -1, 0, api.MaxWords + 1, math.MaxInt}
	for _, f := range []*Fifo{New(), some(t), full(t)} {
		waits := f.Waits()
		// The number 1 is one that would be heard, 4 one that came or is to wait.
		for _, n := range append([]int{1, 4, 100}, numbers...) {
			for _, word := range append([]int{1, 30}, words...) {
				for _, who := range members {
					take(t, f, step{who, n, word, nil, api.ErrRange, waits})
				}
			}
		}
		for who := range api.Members {
			for _, n := range numbers {
				for _, word := range append([]int{1, 30}, words...) {
					take(t, f, step{who, n, word, nil, api.ErrRange, waits})
				}
			}
			for _, n := range []int{1, 2, 3, 4, 100, api.MaxCount} {
				for _, word := range words {
					take(t, f, step{who, n, word, nil, api.ErrRange, waits})
				}
			}
		}
	}
}

func TestClash(t *testing.T) {
	f := some(t)
	for _, s := range []step{
		{1, 1, 10, nil, api.ErrClash, 1},
		{1, 1, 11, nil, api.ErrClash, 1},
		{1, 2, 20, nil, api.ErrClash, 1},
		{1, 2, 21, nil, api.ErrClash, 1},
		{1, 4, 30, nil, api.ErrClash, 1},
		{1, 4, 29, nil, api.ErrClash, 1},
		// What waits is the first one that came, and those refused are as if they never came.
		{1, 3, 25, []int{25, 30}, 0, 0},
		{1, 4, 30, nil, api.ErrClash, 0},
		{1, 3, 1, nil, api.ErrClash, 0},
		// The numbers of one member say nothing of another one's.
		{2, 4, 1, nil, 0, 1},
		{2, 1, 1, []int{1}, 0, 1},
	} {
		take(t, f, s)
	}
}

func TestClashAheadOfFull(t *testing.T) {
	f := full(t)
	take(t, f, step{2, 1, 5, []int{5}, 0, api.MaxOnWay})
	for _, word := range []int{5, 6} {
		take(t, f, step{2, 1, word, nil, api.ErrClash, api.MaxOnWay})
	}
	for i := range api.MaxOnWay {
		take(t, f, step{i % 2, i/2 + 2, 1, nil, api.ErrClash, api.MaxOnWay})
	}
}

func TestRefusedChangesNothing(t *testing.T) {
	f, same := full(t), full(t)
	for _, s := range []step{
		{-1, 1, 1, nil, api.ErrRange, api.MaxOnWay},
		{0, 0, 1, nil, api.ErrRange, api.MaxOnWay},
		{0, 1, 0, nil, api.ErrRange, api.MaxOnWay},
		{0, 2, 30, nil, api.ErrClash, api.MaxOnWay},
		{0, 50, 30, nil, api.ErrFull, api.MaxOnWay},
		{2, 2, 30, nil, api.ErrFull, api.MaxOnWay},
	} {
		take(t, f, s)
	}
	// Whatever comes now, both answer alike: the words refused are not among what waits.
	for _, s := range [][3]int{{0, 1, 9}, {1, 1, 8}, {2, 1, 7}, {2, 2, 6}, {0, 22, 5}, {0, 50, 4}, {1, 50, 3}} {
		got, err := f.Take(s[0], s[1], s[2])
		want, wantErr := same.Take(s[0], s[1], s[2])
		if !slices.Equal(got, want) || plain.Told(err) != plain.Told(wantErr) {
			t.Errorf("Take(%v) = %v, %v, want %v, %v", s, got, err, want, wantErr)
		}
		look(t, f, same.Next(), same.Waits())
	}
}

func TestListsAreTheCallers(t *testing.T) {
	f := New()
	var lists [][]int
	keep := func(l []int) {
		lists = append(lists, l[:cap(l)])
	}
	for _, s := range [][3]int{{0, 1, 5}, {0, 3, 7}, {0, 2, 6}, {1, 3, 9}, {1, 2, 8}, {1, 1, 7}, {0, 4, 8}} {
		heard, err := f.Take(s[0], s[1], s[2])
		if err != nil {
			t.Fatal(err)
		}
		keep(heard)
		keep(f.Next())
	}
	for i, l := range lists {
		for at := range l {
			l[at] = -1 - i
		}
	}
	for i, l := range lists {
		if slices.ContainsFunc(l, func(n int) bool { return n != -1-i }) {
			t.Errorf("list %d shares memory with another one: %v", i, l)
		}
	}
	look(t, f, []int{5, 4, 1, 1, 1}, 0)
	take(t, f, step{0, 6, 2, nil, 0, 1})
	take(t, f, step{0, 5, 1, []int{1, 2}, 0, 0})
}

func TestEachForItself(t *testing.T) {
	one, other := New(), New()
	take(t, one, step{0, 2, 5, nil, 0, 1})
	take(t, one, step{1, 1, 5, []int{5}, 0, 1})
	look(t, other, ones, 0)
	take(t, other, step{0, 1, 6, []int{6}, 0, 0})
	look(t, one, []int{1, 2, 1, 1, 1}, 1)
}

// came is F1 told in another way: all that came, in a list, and what was heard of each counted
// anew each time.
type came [][3]int

func (c came) word(who, n int) int {
	for _, s := range c {
		if s[0] == who && s[1] == n {
			return s[2]
		}
	}
	return 0
}

func (c came) heard(who int) []int {
	var words []int
	for c.word(who, len(words)+1) != 0 {
		words = append(words, c.word(who, len(words)+1))
	}
	return words
}

func (c came) next() []int {
	next := make([]int, api.Members)
	for who := range next {
		next[who] = len(c.heard(who)) + 1
	}
	return next
}

func (c came) waits() int {
	waits := len(c)
	for _, n := range c.next() {
		waits -= n - 1
	}
	return waits
}

func (c came) take(who, n, word int) (came, []int, api.Errno) {
	if who < 0 || who >= api.Members || n < 1 || n > api.MaxCount || word < 1 || word > api.MaxWords {
		return c, nil, api.ErrRange
	}
	if c.word(who, n) != 0 {
		return c, nil, api.ErrClash
	}
	ahead := c.heard(who)
	if c.waits() >= api.MaxOnWay && n != len(ahead)+1 {
		return c, nil, api.ErrFull
	}
	c = append(slices.Clone(c), [3]int{who, n, word})
	return c, c.heard(who)[len(ahead):], 0
}

// hold lets words come to a new one, and holds each answer against came.
func hold(t *testing.T, words [][3]int) {
	t.Helper()
	f, c := New(), came{}
	for _, w := range words {
		next, heard, errno := c.take(w[0], w[1], w[2])
		c = next
		got, err := f.Take(w[0], w[1], w[2])
		if !slices.Equal(got, heard) || plain.Told(err) != errno {
			t.Fatalf("of %v: Take(%v) = %v, %v, want %v, %v", words, w, got, err, heard, errno)
		}
		if !slices.Equal(f.Next(), c.next()) || f.Waits() != c.waits() {
			t.Fatalf("of %v: behind %v: Next %v, Waits %d, want %v, %d", words, w, f.Next(), f.Waits(), c.next(), c.waits())
		}
	}
}

func TestEveryShortRow(t *testing.T) {
	var kinds [][3]int
	for who := range 2 {
		for n := range 4 {
			kinds = append(kinds, [3]int{who, n, 1})
		}
	}
	var grow func(row [][3]int)
	grow = func(row [][3]int) {
		if len(row) == 5 {
			hold(t, row)
			return
		}
		for _, k := range kinds {
			k[2] = len(row) + 1
			grow(append(slices.Clone(row), k))
		}
	}
	grow(nil)
}

// dice are numbers that look thrown, and are the same each time.
type dice uint64

func (d *dice) below(n int) int {
	*d = *d*6364136223846793005 + 1442695040888963407
	return int(uint64(*d>>33) % uint64(n))
}

func TestLongRows(t *testing.T) {
	d := dice(5)
	for range 400 {
		// Few members and far numbers make it full, many and near ones keep it moving.
		members, far := d.below(api.Members)+1, d.below(60)+3
		var row [][3]int
		for range 120 {
			w := [3]int{d.below(members), d.below(far) + 1, d.below(api.MaxWords) + 1}
			if d.below(30) == 0 {
				w[d.below(3)] = []int{-1, 0, api.Members, api.MaxWords + 1, api.MaxCount + 1}[d.below(5)]
			}
			row = append(row, w)
		}
		hold(t, row)
	}
}
