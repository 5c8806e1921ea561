package again

import (
	"math"
	"slices"
	"testing"

	"mootbell/api"
	"mootbell/fifo"
	"mootbell/plain"
)

// takes hands a Hearer a word with a number, by which it hears some.
func takes(t *testing.T, h *Hearer, n, word int, heard ...int) {
	t.Helper()
	if got, err := h.Take(n, word); !slices.Equal(got, heard) || err != nil {
		t.Fatalf("Take(%d, %d) = %v, %v, want %v", n, word, got, err, heard)
	}
}

// refuses hands a Hearer what it tells to be wrong, nothing hands it what has come: by neither does
// anything that can be looked at change.
func refuses(t *testing.T, h *Hearer, want api.Errno, n, word int) {
	t.Helper()
	ahead := looks(t, h)
	if got, err := h.Take(n, word); got != nil || plain.Told(err) != want {
		t.Fatalf("Take(%d, %d) = %v, %v, want nothing, %v", n, word, got, err, want)
	}
	if behind := looks(t, h); !slices.EqualFunc(ahead, behind, slices.Equal) {
		t.Fatalf("Take(%d, %d) changed what is lacking from %v to %v", n, word, ahead, behind)
	}
}

func nothing(t *testing.T, h *Hearer, n, word int) {
	t.Helper()
	refuses(t, h, api.OK, n, word)
}

// looks at what lacks up to some numbers, near ones and far ones.
func looks(t *testing.T, h *Hearer) [][]int {
	t.Helper()
	var all [][]int
	for _, upTo := range []int{0, 1, 2, 3, 5, 8, 41, 42, 60, 100, 200, api.MaxCount} {
		l, err := h.Lacks(upTo)
		if err != nil {
			t.Fatalf("Lacks(%d) told %v", upTo, err)
		}
		all = append(all, l)
	}
	return all
}

// lacks holds what lacks up to a number against what is asked for.
func lacks(t *testing.T, h *Hearer, upTo int, want ...int) {
	t.Helper()
	if got, err := h.Lacks(upTo); !slices.Equal(got, want) || err != nil {
		t.Fatalf("Lacks(%d) = %v, %v, want %v", upTo, got, err, want)
	}
}

// noNumbers are numbers that no word has; noUpTo those up to which nothing can be looked at.
func noNumbers() []int {
	return append(noUpTo(), 0)
}

func noUpTo() []int {
	return []int{math.MinInt, math.MinInt32, -api.MaxCount, -2, -1, api.MaxCount + 1, api.MaxCount + 2, math.MaxInt32, math.MaxInt - 1, math.MaxInt}
}

func TestHearerThatIsNew(t *testing.T) {
	h := NewHearer()
	for range 2 {
		lacks(t, h, 0)
		for upTo := 1; upTo <= api.MaxOnWay; upTo++ {
			lacks(t, h, upTo, rising(1, upTo)...)
		}
		for _, upTo := range []int{api.MaxOnWay + 1, 100, api.MaxCount - 1, api.MaxCount} {
			lacks(t, h, upTo, rising(1, api.MaxOnWay)...)
		}
	}
}

func TestInOrder(t *testing.T) {
	h := NewHearer()
	for n := 1; n <= 100; n++ {
		lacks(t, h, n-1)
		lacks(t, h, n, n)
		takes(t, h, n, nth(n), nth(n))
		lacks(t, h, n)
	}
	lacks(t, h, 0)
	lacks(t, h, 99)
	lacks(t, h, 103, 101, 102, 103)
	lacks(t, h, api.MaxCount, rising(101, 100+api.MaxOnWay)...)
}

func TestBackToFront(t *testing.T) {
	h := NewHearer()
	for n := api.MaxOnWay + 1; n > 1; n-- {
		takes(t, h, n, nth(n))
		lacks(t, h, api.MaxOnWay+1, rising(1, n-1)...)
		lacks(t, h, n, rising(1, n-1)...)
		lacks(t, h, n-1, rising(1, n-1)...)
		lacks(t, h, 1, 1)
	}
	takes(t, h, 1, nth(1), nths(1, api.MaxOnWay+1)...)
	lacks(t, h, api.MaxOnWay+1)
	lacks(t, h, api.MaxOnWay+2, api.MaxOnWay+2)
}

func TestInAnotherOrder(t *testing.T) {
	h := NewHearer()
	takes(t, h, 5, 25)
	lacks(t, h, 7, 1, 2, 3, 4, 6, 7)
	takes(t, h, 3, 23)
	lacks(t, h, 7, 1, 2, 4, 6, 7)
	takes(t, h, 1, 21, 21)
	lacks(t, h, 7, 2, 4, 6, 7)
	takes(t, h, 6, 26)
	lacks(t, h, 7, 2, 4, 7)
	takes(t, h, 2, 22, 22, 23)
	lacks(t, h, 7, 4, 7)
	takes(t, h, 8, 28)
	lacks(t, h, 8, 4, 7)
	takes(t, h, 4, 24, 24, 25, 26)
	lacks(t, h, 8, 7)
	takes(t, h, 7, 27, 27, 28)
	lacks(t, h, 8)
	lacks(t, h, 10, 9, 10)
	takes(t, h, 10, 30)
	takes(t, h, 9, 29, 29, 30)
}

func TestOneWordAtSeveralNumbers(t *testing.T) {
	h := NewHearer()
	takes(t, h, 1, 7, 7)
	takes(t, h, 3, 7)
	takes(t, h, 4, 7)
	takes(t, h, 2, 7, 7, 7, 7)
	takes(t, h, 5, 8, 8)
	takes(t, h, 6, 7, 7)
}

func TestFirstAndLastWordAndNumber(t *testing.T) {
	h := NewHearer()
	takes(t, h, api.MaxCount, api.MaxWords)
	takes(t, h, api.MaxCount-1, 1)
	lacks(t, h, api.MaxCount, rising(1, api.MaxOnWay)...)
	takes(t, h, 1, 1, 1)
	takes(t, h, 2, api.MaxWords, api.MaxWords)
	lacks(t, h, api.MaxCount, rising(3, 2+api.MaxOnWay)...)
	nothing(t, h, api.MaxCount, api.MaxWords)
	nothing(t, h, api.MaxCount, 5)
}

func TestUpToTheLastNumber(t *testing.T) {
	h := NewHearer()
	takes(t, h, api.MaxCount, 30)
	for n := 1; n < api.MaxCount-1; n++ {
		if heard, err := h.Take(n, nth(n)); err != nil || len(heard) != 1 || heard[0] != nth(n) {
			t.Fatalf("Take(%d, %d) = %v, %v", n, nth(n), heard, err)
		}
	}
	lacks(t, h, api.MaxCount-2)
	lacks(t, h, api.MaxCount-1, api.MaxCount-1)
	lacks(t, h, api.MaxCount, api.MaxCount-1)
	takes(t, h, api.MaxCount-1, 29, 29, 30)
	lacks(t, h, api.MaxCount)
	refuses(t, h, api.ErrRange, api.MaxCount+1, 1)
	for _, n := range []int{1, 2, api.MaxCount - 1, api.MaxCount} {
		nothing(t, h, n, 30)
		nothing(t, h, n, 1)
	}
	lacks(t, h, api.MaxCount)
}

func TestSecondTime(t *testing.T) {
	h := NewHearer()
	takes(t, h, 1, 10, 10)
	takes(t, h, 2, 20, 20)
	takes(t, h, 4, 14)
	takes(t, h, 5, 15)
	takes(t, h, 7, 17)
	// With the same word, with another one, and with one that came with another number.
	for range 2 {
		for _, word := range []int{10, 20, 14, 15, 17, 1, 30} {
			for _, n := range []int{1, 2, 4, 5, 7} {
				nothing(t, h, n, word)
			}
		}
	}
	lacks(t, h, 8, 3, 6, 8)
	// What waits is the word that came first.
	takes(t, h, 3, 13, 13, 14, 15)
	for _, n := range []int{1, 2, 3, 4, 5, 7} {
		nothing(t, h, n, 13)
		nothing(t, h, n, 30)
	}
	takes(t, h, 6, 16, 16, 17)
	lacks(t, h, 8, 8)
}

// fullHearer heard so many words, and of those behind the next one MaxOnWay wait.
func fullHearer(t *testing.T, heard int) *Hearer {
	t.Helper()
	h := NewHearer()
	for n := 1; n <= heard; n++ {
		takes(t, h, n, nth(n), nth(n))
	}
	for n := heard + 2; n <= heard+1+api.MaxOnWay; n++ {
		takes(t, h, n, nth(n))
	}
	return h
}

func TestHearerThatIsFull(t *testing.T) {
	for _, heard := range []int{0, 1, 40, 77} {
		h := fullHearer(t, heard)
		next, last := heard+1, heard+1+api.MaxOnWay
		for _, n := range []int{last + 1, last + 2, last + 100, api.MaxCount} {
			refuses(t, h, api.ErrFull, n, 1)
			refuses(t, h, api.ErrFull, n, api.MaxWords)
		}
		lacks(t, h, last, next)
		lacks(t, h, last+2, next, last+1, last+2)
		takes(t, h, next, nth(next), nths(next, last)...)
		lacks(t, h, last)
		// What was refused does not wait: it is heard when it comes once more.
		takes(t, h, last+1, 5, 5)
		takes(t, h, last+3, 6)
		takes(t, h, last+2, 7, 7, 6)
	}
}

func TestFullWithGaps(t *testing.T) {
	h := NewHearer()
	for i := range api.MaxOnWay {
		takes(t, h, 2*i+2, nth(i))
	}
	lacks(t, h, 2*api.MaxOnWay, odds(1, 2*api.MaxOnWay-1)...)
	// One that would fill a gap is not the next one either.
	for _, n := range []int{3, 5, 2*api.MaxOnWay - 1, 2*api.MaxOnWay + 1} {
		refuses(t, h, api.ErrFull, n, 5)
	}
	takes(t, h, 1, 5, 5, nth(0))
	refuses(t, h, api.ErrRange, 0, 5)
	// There is room for one, and for no other one.
	takes(t, h, 5, 6)
	refuses(t, h, api.ErrFull, 7, 5)
	takes(t, h, 3, 7, 7, nth(1), 6, nth(2))
	lacks(t, h, 12, 7, 9, 11)
}

// odds is each second number from one to another one.
func odds(from, to int) []int {
	var l []int
	for n := from; n <= to; n += 2 {
		l = append(l, n)
	}
	return l
}

func TestFullBehindOneThatIsHeard(t *testing.T) {
	h := NewHearer()
	for n := 3; n < 3+api.MaxOnWay; n++ {
		takes(t, h, n, nth(n))
	}
	// The next one is heard, and none that waits is the next behind it: there is no more room.
	takes(t, h, 1, 9, 9)
	refuses(t, h, api.ErrFull, 3+api.MaxOnWay, 5)
	takes(t, h, 2, 8, append([]int{8}, nths(3, 2+api.MaxOnWay)...)...)
	takes(t, h, 3+api.MaxOnWay, 5, 5)
}

func TestSecondTimeWhereItIsFull(t *testing.T) {
	for _, heard := range []int{0, 3} {
		h := fullHearer(t, heard)
		for n := 1; n <= heard+1+api.MaxOnWay; n++ {
			if n != heard+1 {
				nothing(t, h, n, nth(n))
				nothing(t, h, n, nth(n+1))
			}
		}
		refuses(t, h, api.ErrFull, heard+2+api.MaxOnWay, 1)
		takes(t, h, heard+1, 9, append([]int{9}, nths(heard+2, heard+1+api.MaxOnWay)...)...)
	}
}

func TestTakeOutOfRange(t *testing.T) {
	some := NewHearer()
	takes(t, some, 1, 10, 10)
	takes(t, some, 3, 12)
	// That it is full, and that one has come, are told of only where both numbers may be.
	for _, h := range []*Hearer{NewHearer(), some, fullHearer(t, 0), fullHearer(t, 4)} {
		for _, n := range noNumbers() {
			for _, word := range append(noWords(), 1, 10, api.MaxWords) {
				refuses(t, h, api.ErrRange, n, word)
			}
		}
		for _, word := range noWords() {
			for _, n := range []int{1, 2, 3, 5, 6, 41, 42, 100, api.MaxCount} {
				refuses(t, h, api.ErrRange, n, word)
			}
		}
	}
}

func TestLacksOutOfRange(t *testing.T) {
	for _, h := range []*Hearer{NewHearer(), fullHearer(t, 0), fullHearer(t, 4)} {
		ahead := looks(t, h)
		for _, upTo := range noUpTo() {
			if got, err := h.Lacks(upTo); got != nil || plain.Told(err) != api.ErrRange {
				t.Fatalf("Lacks(%d) = %v, %v, want nothing, %v", upTo, got, err, api.ErrRange)
			}
		}
		if behind := looks(t, h); !slices.EqualFunc(ahead, behind, slices.Equal) {
			t.Fatalf("what is lacking changed from %v to %v", ahead, behind)
		}
	}
}

func TestLacksBetweenThoseThatWait(t *testing.T) {
	h := NewHearer()
	for n := 1; n <= 4; n++ {
		takes(t, h, n, nth(n), nth(n))
	}
	for _, n := range []int{6, 7, 10} {
		takes(t, h, n, nth(n))
	}
	for _, c := range []struct {
		upTo int
		want []int
	}{
		{0, nil}, {1, nil}, {3, nil}, {4, nil}, {5, []int{5}}, {6, []int{5}}, {7, []int{5}}, {8, []int{5, 8}},
		{9, []int{5, 8, 9}}, {10, []int{5, 8, 9}}, {11, []int{5, 8, 9, 11}}, {13, []int{5, 8, 9, 11, 12, 13}},
	} {
		lacks(t, h, c.upTo, c.want...)
	}
}

func TestLacksAtMost(t *testing.T) {
	const most = api.MaxOnWay
	h := NewHearer()
	takes(t, h, 1, 1, 1)
	takes(t, h, 10, 1)
	takes(t, h, 20, 1)
	takes(t, h, 30, 1)
	all := slices.DeleteFunc(rising(2, most+4), func(n int) bool { return n%10 == 0 && n <= 30 })
	if len(all) != most {
		t.Fatalf("%d numbers, want %d", len(all), most)
	}
	lacks(t, h, most+3, all[:most-1]...)
	lacks(t, h, most+4, all...)
	for _, upTo := range []int{most + 5, most + 6, 2 * most, api.MaxCount - 1, api.MaxCount} {
		lacks(t, h, upTo, all...)
	}
	// One that waits behind the last one told makes no room for another one.
	takes(t, h, most+5, 1)
	lacks(t, h, api.MaxCount, all...)
	takes(t, h, 5, 1)
	lacks(t, h, most+5, slices.DeleteFunc(slices.Clone(all), func(n int) bool { return n == 5 })...)
	lacks(t, h, api.MaxCount, append(slices.DeleteFunc(slices.Clone(all), func(n int) bool { return n == 5 }), most+6)...)
}

func TestLookingChangesNothing(t *testing.T) {
	h, same := NewHearer(), NewHearer()
	for _, n := range []int{4, 2, 6, 1, 7, 3, 5} {
		for range 3 {
			looks(t, h)
		}
		got, err := h.Take(n, nth(n))
		want, wantErr := same.Take(n, nth(n))
		if !slices.Equal(got, want) || err != nil || wantErr != nil {
			t.Fatalf("Take(%d) = %v, %v, want %v, %v", n, got, err, want, wantErr)
		}
	}
	lacks(t, h, 8, 8)
}

func TestHearerThatRefusedGoesOnTheSame(t *testing.T) {
	h := fullHearer(t, 1)
	refuses(t, h, api.ErrRange, 0, 1)
	refuses(t, h, api.ErrRange, 2, 0)
	refuses(t, h, api.ErrRange, 2, 31)
	refuses(t, h, api.ErrRange, 100, 31)
	refuses(t, h, api.ErrFull, 50, 30)
	nothing(t, h, 1, 30)
	nothing(t, h, 3, 30)
	takes(t, h, 2, 9, append([]int{9}, nths(3, 42)...)...)
	for n := 43; n < 50; n++ {
		takes(t, h, n, 4, 4)
	}
	takes(t, h, 50, 5, 5)
	lacks(t, h, 100, rising(51, 90)...)
}

// scrawl writes into a list, and what lies behind it in its memory.
func scrawl(l []int, with int) {
	l = l[:cap(l)]
	for at := range l {
		l[at] = with
	}
}

func TestListsAreTheCallers(t *testing.T) {
	h := NewHearer()
	var lists [][]int
	for _, n := range []int{1, 3, 2, 6, 5, 4, 7, 7, 9} {
		heard, err := h.Take(n, nth(n))
		if err != nil {
			t.Fatal(err)
		}
		lists = append(lists, heard)
		for _, upTo := range []int{8, 12, 12, api.MaxCount} {
			l, err := h.Lacks(upTo)
			if err != nil {
				t.Fatal(err)
			}
			lists = append(lists, l)
		}
	}
	for i, l := range lists {
		scrawl(l, -1-i)
	}
	for i, l := range lists {
		if slices.ContainsFunc(l, func(n int) bool { return n != -1-i }) {
			t.Errorf("list %d shares memory with another one: %v", i, l)
		}
	}
	lacks(t, h, 11, 8, 10, 11)
	takes(t, h, 8, 1, 1, nth(9))
	lacks(t, h, 11, 10, 11)
}

func TestAnswersStayAsTheyWere(t *testing.T) {
	h := NewHearer()
	takes(t, h, 3, 13)
	takes(t, h, 2, 12)
	early, _ := h.Lacks(5)
	heard, _ := h.Take(1, 11)
	late, _ := h.Lacks(6)
	takes(t, h, 5, 15)
	takes(t, h, 4, 14, 14, 15)
	nothing(t, h, 1, 1)
	if !slices.Equal(early, []int{1, 4, 5}) || !slices.Equal(heard, []int{11, 12, 13}) || !slices.Equal(late, []int{4, 5, 6}) {
		t.Errorf("answers became %v, %v, %v", early, heard, late)
	}
}

func TestEachHearerForItself(t *testing.T) {
	one, other := NewHearer(), NewHearer()
	takes(t, one, 2, 12)
	lacks(t, other, 3, 1, 2, 3)
	takes(t, other, 1, 21, 21)
	takes(t, other, 2, 22, 22)
	lacks(t, one, 3, 1, 3)
	takes(t, one, 1, 11, 11, 12)
	lacks(t, other, 4, 3, 4)
	full := fullHearer(t, 0)
	refuses(t, full, api.ErrFull, 50, 1)
	takes(t, one, 50, 1)
	lacks(t, NewHearer(), 2, 1, 2)
}

func TestAsAFifoOfOneMember(t *testing.T) {
	d := dice(5)
	for range 200 {
		h, f := NewHearer(), fifo.New()
		far := d.below(60) + 3
		for range 120 {
			n, word := d.below(far)+1, d.below(api.MaxWords)+1
			want, told := f.Take(0, n, word)
			errno := plain.Told(told)
			if errno == api.ErrClash {
				errno = api.OK
			}
			if got, err := h.Take(n, word); !slices.Equal(got, want) || plain.Told(err) != errno {
				t.Fatalf("Take(%d, %d) = %v, %v, want %v, %v", n, word, got, err, want, errno)
			}
			next := f.Next()[0]
			lacks(t, h, next, next)
		}
	}
}

// toldHearer is A2 in another way: all that came, each with its number, in the order in which it
// came.
type toldHearer struct{ came [][2]int }

func (m *toldHearer) word(n int) int {
	for _, c := range m.came {
		if c[0] == n {
			return c[1]
		}
	}
	return 0
}

func (m *toldHearer) heard() []int {
	var words []int
	for word := m.word(1); word != 0; word = m.word(len(words) + 1) {
		words = append(words, word)
	}
	return words
}

func (m *toldHearer) take(n, word int) ([]int, api.Errno) {
	ahead := len(m.heard())
	switch {
	case n < 1, n > 1_000_000, word < 1, word > 30:
		return nil, api.ErrRange
	case m.word(n) != 0:
		return nil, api.OK
	case len(m.came)-ahead == 40 && n != ahead+1:
		return nil, api.ErrFull
	}
	m.came = append(m.came, [2]int{n, word})
	return m.heard()[ahead:], api.OK
}

func (m *toldHearer) lacks(upTo int) []int {
	var l []int
	for n := 1; n <= upTo && len(l) < 40; n++ {
		if m.word(n) == 0 {
			l = append(l, n)
		}
	}
	return l
}

// holdHearer hands a new one a row of words with their numbers, and holds each answer, and what
// lacks behind it, against toldHearer.
func holdHearer(t *testing.T, row [][2]int, upTo ...int) (full, cut int) {
	t.Helper()
	h, m := NewHearer(), &toldHearer{}
	for _, c := range row {
		want, errno := m.take(c[0], c[1])
		if got, err := h.Take(c[0], c[1]); !slices.Equal(got, want) || plain.Told(err) != errno {
			t.Fatalf("%v: Take(%v) = %v, %v, want %v, %v", row, c, got, err, want, errno)
		}
		if errno == api.ErrFull {
			full++
		}
		for _, far := range upTo {
			want := m.lacks(far)
			lacks(t, h, far, want...)
			if len(want) == 40 {
				cut++
			}
		}
	}
	return full, cut
}

func TestEveryShortRowOfAHearer(t *testing.T) {
	kinds := [][2]int{{1, 11}, {1, 21}, {2, 12}, {2, 22}, {3, 13}, {4, 14}, {5, 15}, {0, 1}, {2, 0}, {3, 31}}
	everyRow(5, kinds, func(row [][2]int) { holdHearer(t, row, 0, 1, 3, 6) })
}

func TestLongRowsOfAHearer(t *testing.T) {
	d := dice(10)
	full, cut := 0, 0
	for range 400 {
		// Far numbers make it full, near ones keep it moving.
		far := d.below(100) + 3
		var row [][2]int
		for range 120 {
			c := [2]int{d.below(far) + 1, d.below(api.MaxWords) + 1}
			switch d.below(30) {
			case 0:
				c[0] = d.one(math.MinInt, -1, 0, api.MaxCount, api.MaxCount+1, math.MaxInt)
			case 1:
				c[1] = d.one(math.MinInt, -1, 0, api.MaxWords+1, math.MaxInt)
			}
			row = append(row, c)
		}
		f, c := holdHearer(t, row, d.below(far), far, 2*far, api.MaxCount)
		full, cut = full+f, cut+c
	}
	if full < 1000 || cut < 1000 {
		t.Errorf("full %d times, cut short %d times: too few", full, cut)
	}
}

// A Hearer to which some never came hears all the same, by what it lacks and the Sender keeps.
func TestSenderAndHearer(t *testing.T) {
	d := dice(20)
	s, h := NewSender(), NewHearer()
	var said, heard []int
	for range 30 {
		for range d.below(20) + 1 {
			word := d.below(api.MaxWords) + 1
			n, err := s.Say(word)
			if err != nil {
				t.Fatalf("Say(%d) told %v", word, err)
			}
			said = append(said, word)
			if d.below(2) == 0 {
				l, err := h.Take(n, word)
				if err != nil {
					t.Fatalf("Take(%d, %d) told %v", n, word, err)
				}
				heard = append(heard, l...)
			}
		}
		lack, err := h.Lacks(len(said))
		if err != nil {
			t.Fatalf("Lacks(%d) told %v", len(said), err)
		}
		for _, n := range lack {
			word, err := s.Ask(n)
			if err != nil {
				t.Fatalf("Ask(%d) told %v", n, err)
			}
			l, err := h.Take(n, word)
			if err != nil {
				t.Fatalf("Take(%d, %d) told %v", n, word, err)
			}
			heard = append(heard, l...)
		}
		lacks(t, h, len(said))
		frees(t, s, len(said))
		if !slices.Equal(heard, said) {
			t.Fatalf("heard %v, want %v", heard, said)
		}
	}
}
