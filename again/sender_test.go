package again

import (
	"math"
	"slices"
	"testing"

	"mootbell/api"
	"mootbell/plain"
)

// says lets a Sender say words, of which the first has that number, and each next one the next.
func says(t *testing.T, s *Sender, number int, words ...int) {
	t.Helper()
	for i, word := range words {
		if got, err := s.Say(word); got != number+i || err != nil {
			t.Fatalf("Say(%d) = %d, %v, want %d", word, got, err, number+i)
		}
	}
}

func frees(t *testing.T, s *Sender, numbers ...int) {
	t.Helper()
	for _, n := range numbers {
		if err := s.Free(n); err != nil {
			t.Fatalf("Free(%d) told %v", n, err)
		}
	}
}

// asks holds what Ask of a number answers against what is asked for.
func asks(t *testing.T, s *Sender, n, word int, want api.Errno) {
	t.Helper()
	if got, err := s.Ask(n); got != word || plain.Told(err) != want {
		t.Fatalf("Ask(%d) = %d, %v, want %d, %v", n, got, err, word, want)
	}
}

// keeps asks for whatever number: so many are free, the words behind them are kept, and no more
// were said.
func keeps(t *testing.T, s *Sender, free int, words ...int) {
	t.Helper()
	said := free + len(words)
	for n := 1; n <= free; n++ {
		asks(t, s, n, 0, api.ErrNone)
	}
	for i, word := range words {
		asks(t, s, free+1+i, word, api.OK)
	}
	for _, n := range []int{math.MinInt, math.MinInt32, -said - 1, -said, -2, -1, 0, said + 1, said + 2, said + api.MaxOnWay, math.MaxInt32, math.MaxInt - 1, math.MaxInt} {
		asks(t, s, n, 0, api.ErrRange)
	}
}

// sayRefuses and freeRefuses tell of what is wrong; what is kept is for the caller to look at.
func sayRefuses(t *testing.T, s *Sender, want api.Errno, words ...int) {
	t.Helper()
	for _, word := range words {
		if got, err := s.Say(word); got != 0 || plain.Told(err) != want {
			t.Fatalf("Say(%d) = %d, %v, want 0, %v", word, got, err, want)
		}
	}
}

func freeRefuses(t *testing.T, s *Sender, numbers ...int) {
	t.Helper()
	for _, n := range numbers {
		if err := s.Free(n); plain.Told(err) != api.ErrRange {
			t.Fatalf("Free(%d) told %v, want %v", n, err, api.ErrRange)
		}
	}
}

// noneToFree are numbers up to which nothing can be free where so many were said.
func noneToFree(said int) []int {
	return []int{math.MinInt, math.MinInt32, -api.MaxOnWay, -2, -1, said + 1, said + 2, said + api.MaxOnWay, math.MaxInt32, math.MaxInt - 1, math.MaxInt}
}

func TestSenderThatIsNew(t *testing.T) {
	s := NewSender()
	keeps(t, s, 0)
	frees(t, s, 0, 0)
	freeRefuses(t, s, noneToFree(0)...)
	keeps(t, s, 0)
	says(t, s, 1, 9)
	keeps(t, s, 0, 9)
}

func TestSaidIsKept(t *testing.T) {
	s := NewSender()
	var words []int
	for n := 1; n <= api.MaxOnWay; n++ {
		says(t, s, n, nth(n))
		words = append(words, nth(n))
		keeps(t, s, 0, words...)
	}
}

func TestEveryWord(t *testing.T) {
	s := NewSender()
	for word := 1; word <= api.MaxWords; word++ {
		says(t, s, word, word)
	}
	keeps(t, s, 0, rising(1, api.MaxWords)...)
}

func TestOneWordMoreThanOnce(t *testing.T) {
	s := NewSender()
	says(t, s, 1, 7, 7, 8, 7)
	keeps(t, s, 0, 7, 7, 8, 7)
	frees(t, s, 1)
	// Also one of which an earlier number is free.
	says(t, s, 5, 7)
	keeps(t, s, 1, 7, 8, 7, 7)
	frees(t, s, 5)
	says(t, s, 6, 7, 7)
	keeps(t, s, 5, 7, 7)
}

func TestAskedMoreThanOnce(t *testing.T) {
	s := NewSender()
	says(t, s, 1, 10, 20, 30)
	for range 3 {
		asks(t, s, 1, 10, api.OK)
		asks(t, s, 3, 30, api.OK)
		asks(t, s, 2, 20, api.OK)
		asks(t, s, 4, 0, api.ErrRange)
	}
	frees(t, s, 1)
	for range 3 {
		asks(t, s, 3, 30, api.OK)
		asks(t, s, 1, 0, api.ErrNone)
		asks(t, s, 2, 20, api.OK)
		asks(t, s, 0, 0, api.ErrRange)
	}
	says(t, s, 4, 11)
	keeps(t, s, 1, 20, 30, 11)
}

func TestFreeUpToEachNumber(t *testing.T) {
	const said = 6
	words := nths(1, said)
	for first := 0; first <= said; first++ {
		for second := 0; second <= said; second++ {
			s := NewSender()
			says(t, s, 1, words...)
			frees(t, s, first)
			keeps(t, s, first, words[first:]...)
			frees(t, s, first)
			keeps(t, s, first, words[first:]...)
			// What is free stays so, also where the second number is below the first one.
			frees(t, s, second)
			free := max(first, second)
			keeps(t, s, free, words[free:]...)
			says(t, s, said+1, 30)
			keeps(t, s, free, append(slices.Clone(words[free:]), 30)...)
		}
	}
}

func TestFreedOneByOne(t *testing.T) {
	s := NewSender()
	for n := 1; n <= 200; n++ {
		says(t, s, n, nth(n))
		keeps(t, s, n-1, nth(n))
		frees(t, s, n)
		keeps(t, s, n)
	}
	frees(t, s, 0, 1, 199, 200)
	freeRefuses(t, s, noneToFree(200)...)
	keeps(t, s, 200)
}

func TestNumbersGoOn(t *testing.T) {
	s := NewSender()
	// No number is named at which it ends.
	for n := 1; n <= api.MaxCount+api.MaxOnWay; n++ {
		if got, err := s.Say(nth(n)); got != n || err != nil {
			t.Fatalf("Say = %d, %v, want %d", got, err, n)
		}
		if n <= api.MaxCount {
			frees(t, s, n)
		}
	}
	sayRefuses(t, s, api.ErrFull, 1)
	asks(t, s, 1, 0, api.ErrNone)
	asks(t, s, api.MaxCount, 0, api.ErrNone)
	for n := api.MaxCount + 1; n <= api.MaxCount+api.MaxOnWay; n++ {
		asks(t, s, n, nth(n), api.OK)
	}
	asks(t, s, api.MaxCount+api.MaxOnWay+1, 0, api.ErrRange)
	freeRefuses(t, s, api.MaxCount+api.MaxOnWay+1)
	frees(t, s, api.MaxCount+1)
	asks(t, s, api.MaxCount+1, 0, api.ErrNone)
	asks(t, s, api.MaxCount+2, nth(api.MaxCount+2), api.OK)
}

// fullSender keeps MaxOnWay words, of which the first has the number behind those that are free.
func fullSender(t *testing.T, free int) *Sender {
	t.Helper()
	s := NewSender()
	for n := 1; n <= free; n++ {
		says(t, s, n, nth(n))
		frees(t, s, n)
	}
	says(t, s, free+1, nths(free+1, free+api.MaxOnWay)...)
	return s
}

func TestSenderThatIsFull(t *testing.T) {
	const most = api.MaxOnWay
	for _, free := range []int{0, 1, 39, 40, 100} {
		last := free + most
		s := fullSender(t, free)
		sayRefuses(t, s, api.ErrFull, rising(1, api.MaxWords)...)
		keeps(t, s, free, nths(free+1, last)...)
		// Nothing gets free by what was free already, and by what is refused.
		frees(t, s, 0, free)
		freeRefuses(t, s, noneToFree(last)...)
		sayRefuses(t, s, api.ErrFull, 1)
		frees(t, s, free+1)
		says(t, s, last+1, nth(last+1))
		sayRefuses(t, s, api.ErrFull, 1, api.MaxWords)
		keeps(t, s, free+1, nths(free+2, last+1)...)
		frees(t, s, free+4)
		says(t, s, last+2, nths(last+2, last+4)...)
		sayRefuses(t, s, api.ErrFull, 1)
		keeps(t, s, free+4, nths(free+5, last+4)...)
		frees(t, s, last+4)
		keeps(t, s, last+4)
		says(t, s, last+5, nths(last+5, last+4+most)...)
		sayRefuses(t, s, api.ErrFull, 1)
		keeps(t, s, last+4, nths(last+5, last+4+most)...)
	}
}

func TestSayNoWord(t *testing.T) {
	// That it is full is told of only where the word may be.
	full := fullSender(t, 3)
	sayRefuses(t, full, api.ErrRange, noWords()...)
	sayRefuses(t, full, api.ErrFull, 1)
	keeps(t, full, 3, nths(4, 3+api.MaxOnWay)...)
	s := NewSender()
	sayRefuses(t, s, api.ErrRange, noWords()...)
	keeps(t, s, 0)
	says(t, s, 1, 1)
	sayRefuses(t, s, api.ErrRange, noWords()...)
	says(t, s, 2, api.MaxWords)
	keeps(t, s, 0, 1, api.MaxWords)
}

func TestFreeNoNumber(t *testing.T) {
	for said := range 5 {
		for free := 0; free <= said; free++ {
			s := NewSender()
			says(t, s, 1, nths(1, said)...)
			frees(t, s, free)
			freeRefuses(t, s, noneToFree(said)...)
			keeps(t, s, free, nths(free+1, said)...)
			says(t, s, said+1, 30)
			frees(t, s, said+1)
			keeps(t, s, said+1)
		}
	}
}

func TestSenderThatRefusedGoesOnTheSame(t *testing.T) {
	s := NewSender()
	for n := 1; n <= api.MaxOnWay; n++ {
		sayRefuses(t, s, api.ErrRange, noWords()...)
		freeRefuses(t, s, noneToFree(n-1)...)
		asks(t, s, n, 0, api.ErrRange)
		says(t, s, n, nth(n))
		keeps(t, s, 0, nths(1, n)...)
	}
	sayRefuses(t, s, api.ErrFull, rising(1, api.MaxWords)...)
	frees(t, s, 2)
	says(t, s, api.MaxOnWay+1, 5, 6)
	keeps(t, s, 2, append(nths(3, api.MaxOnWay), 5, 6)...)
}

func TestEachSenderForItself(t *testing.T) {
	one, other := NewSender(), NewSender()
	says(t, one, 1, 10, 20)
	keeps(t, other, 0)
	says(t, other, 1, 30, 29, 28)
	frees(t, other, 2)
	keeps(t, one, 0, 10, 20)
	frees(t, one, 1)
	keeps(t, one, 1, 20)
	keeps(t, other, 2, 28)
	full := fullSender(t, 0)
	sayRefuses(t, full, api.ErrFull, 1)
	says(t, one, 3, 11)
	keeps(t, NewSender(), 0)
}

// call of a Sender: say and free change it, if they are taken.
type call struct {
	free bool
	n    int
}

// toldSender is A1 in another way: all that was ever said, and up to where it is free.
type toldSender struct {
	said []int
	free int
}

func (m *toldSender) do(c call) (int, api.Errno) {
	switch {
	case c.free && (c.n < 0 || c.n > len(m.said)):
		return 0, api.ErrRange
	case c.free:
		m.free = max(m.free, c.n)
		return 0, api.OK
	case c.n < 1 || c.n > 30:
		return 0, api.ErrRange
	case len(m.said)-m.free == 40:
		return 0, api.ErrFull
	}
	m.said = append(m.said, c.n)
	return len(m.said), api.OK
}

// holdSender asks a new one for a row of things, and holds each answer against toldSender, which
// is handed out as it is at the end.
func holdSender(t *testing.T, row []call) *toldSender {
	t.Helper()
	s, m := NewSender(), &toldSender{}
	for _, c := range row {
		want, errno := m.do(c)
		var got int
		var err error
		if c.free {
			err = s.Free(c.n)
		} else {
			got, err = s.Say(c.n)
		}
		if got != want || plain.Told(err) != errno {
			t.Fatalf("%v: %v = %d, %v, want %d, %v", row, c, got, err, want, errno)
		}
		keeps(t, s, m.free, m.said[m.free:]...)
	}
	return m
}

func TestEveryShortRowOfASender(t *testing.T) {
	kinds := []call{{false, 1}, {false, 30}, {false, 0}, {true, -1}, {true, 0}, {true, 1}, {true, 2}, {true, 3}}
	everyRow(5, kinds, func(row []call) { holdSender(t, row) })
}

func TestLongRowsOfASender(t *testing.T) {
	d := dice(10)
	long, free := 0, 0
	for range 300 {
		// Who is seldom freed gets full, who often is keeps moving.
		seldom := d.below(60) + 2
		var row []call
		said := 0
		for range 150 {
			switch {
			case d.below(20) == 0:
				row = append(row, call{false, d.one(math.MinInt, -1, 0, 31, math.MaxInt)})
			case d.below(20) == 0:
				row = append(row, call{true, d.one(math.MinInt, -1, said+1, math.MaxInt)})
			case d.below(seldom) == 0:
				row = append(row, call{true, d.below(said + 1)})
			default:
				row = append(row, call{false, d.below(api.MaxWords) + 1})
				said++
			}
		}
		m := holdSender(t, row)
		if len(m.said)-m.free == api.MaxOnWay {
			long++
		}
		if m.free > api.MaxOnWay {
			free++
		}
	}
	if long < 20 || free < 20 {
		t.Errorf("of 300 rows %d were full, and %d far on at their end: too few", long, free)
	}
}
