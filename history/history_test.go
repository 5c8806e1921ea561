package history

import (
	"math"
	"slices"
	"testing"

	"mootbell/api"
	"mootbell/plain"
)

func think(who int) api.Event { return api.Event{Who: who, What: api.Think} }

func say(who, word int) api.Event { return api.Event{Who: who, What: api.Say, Word: word} }

func hear(who, word int) api.Event { return api.Event{Who: who, What: api.Hear, Word: word} }

// thoughts are as many events as one likes, all of them right.
func thoughts(many int) []api.Event {
	h := make([]api.Event, many)
	for at := range h {
		h[at] = think(at % api.Members)
	}
	return h
}

// talk has all kinds of events, words that are passed on, and a member that hears nothing.
var talk = []api.Event{
	think(0),    // 0
	say(0, 7),   // 1
	say(3, 1),   // 2
	hear(1, 7),  // 3
	say(1, 30),  // 4
	hear(2, 1),  // 5
	hear(2, 30), // 6
	think(4),    // 7
	hear(0, 30), // 8
	say(4, 2),   // 9
}

// pasts of talk's events.
var pasts = [][]int{
	nil,
	{0},
	nil,
	{0, 1},
	{0, 1, 3},
	{2},
	{0, 1, 2, 3, 4, 5},
	nil,
	{0, 1, 3, 4},
	{7},
}

func TestCheckOfWhatIsRight(t *testing.T) {
	loud := make([]api.Event, 0, api.MaxEvents)
	for word := range api.MaxWords {
		loud = append(loud, say(word%api.Members, word+1))
	}
	for word := range api.MaxWords {
		loud = append(loud, hear((word+1)%api.Members, word+1))
	}
	for i, h := range [][]api.Event{
		nil,
		{},
		{think(0)},
		{think(api.Members - 1)},
		{say(0, 1)},
		{say(0, api.MaxWords)},
		{say(0, 1), hear(1, 1), hear(2, 1), hear(3, 1), hear(4, 1)},
		{say(4, api.MaxWords), hear(0, api.MaxWords)},
		{say(0, 1), say(0, 2), hear(1, 2), hear(1, 1)},
		talk,
		loud,
		thoughts(api.MaxEvents),
	} {
		if at, err := Check(h); at != 0 || err != nil {
			t.Errorf("case %d: Check = %d, %v, want 0, nil", i, at, err)
		}
	}
}

// faulty histories, at which place each is wrong, and how.
var faulty = []struct {
	h    []api.Event
	at   int
	want api.Errno
}{
	{thoughts(api.MaxEvents + 1), 0, api.ErrFull},
	{thoughts(1_000_000), 0, api.ErrFull},
	{append([]api.Event{think(-1)}, thoughts(api.MaxEvents)...), 0, api.ErrFull},
	{append([]api.Event{think(0), hear(0, 1)}, thoughts(api.MaxEvents)...), 0, api.ErrFull},

	{[]api.Event{think(-1)}, 0, api.ErrRange},
	{[]api.Event{think(api.Members)}, 0, api.ErrRange},
	{[]api.Event{think(math.MinInt)}, 0, api.ErrRange},
	{[]api.Event{think(math.MaxInt)}, 0, api.ErrRange},
	{[]api.Event{think(0), say(-1, 1)}, 1, api.ErrRange},
	{[]api.Event{think(0), say(api.Members, 1)}, 1, api.ErrRange},
	{[]api.Event{say(0, 1), hear(-1, 1)}, 1, api.ErrRange},
	{[]api.Event{say(0, 1), hear(api.Members, 1)}, 1, api.ErrRange},
	{[]api.Event{{}}, 0, api.ErrRange},
	{[]api.Event{{Who: 0, What: 0, Word: 1}}, 0, api.ErrRange},
	{[]api.Event{{Who: 0, What: -1, Word: 0}}, 0, api.ErrRange},
	{[]api.Event{{Who: 0, What: 4, Word: 0}}, 0, api.ErrRange},
	{[]api.Event{{Who: 0, What: 4, Word: 1}}, 0, api.ErrRange},
	{[]api.Event{{Who: 0, What: math.MaxInt, Word: 1}}, 0, api.ErrRange},
	{[]api.Event{{Who: 0, What: math.MinInt, Word: 1}}, 0, api.ErrRange},
	{[]api.Event{{Who: 0, What: api.Think, Word: 1}}, 0, api.ErrRange},
	{[]api.Event{{Who: 0, What: api.Think, Word: -1}}, 0, api.ErrRange},
	{[]api.Event{{Who: 0, What: api.Think, Word: api.MaxWords}}, 0, api.ErrRange},
	{[]api.Event{say(0, 0)}, 0, api.ErrRange},
	{[]api.Event{say(0, -1)}, 0, api.ErrRange},
	{[]api.Event{say(0, api.MaxWords+1)}, 0, api.ErrRange},
	{[]api.Event{say(0, math.MinInt)}, 0, api.ErrRange},
	{[]api.Event{say(0, math.MaxInt)}, 0, api.ErrRange},
	{[]api.Event{hear(0, 0)}, 0, api.ErrRange},
	{[]api.Event{hear(0, -1)}, 0, api.ErrRange},
	{[]api.Event{hear(0, api.MaxWords+1)}, 0, api.ErrRange},

	{[]api.Event{say(0, 1), say(0, 1)}, 1, api.ErrClash},
	{[]api.Event{say(0, 1), say(1, 1)}, 1, api.ErrClash},
	{[]api.Event{say(0, 1), hear(1, 1), say(1, 1)}, 2, api.ErrClash},
	{[]api.Event{say(0, 1), hear(1, 1), hear(1, 1)}, 2, api.ErrClash},
	{[]api.Event{say(0, 1), hear(1, 1), hear(2, 1), think(3), hear(1, 1)}, 4, api.ErrClash},

	{[]api.Event{hear(1, 1)}, 0, api.ErrNone},
	{[]api.Event{hear(1, 1), say(0, 1)}, 0, api.ErrNone},
	{[]api.Event{say(0, 1), hear(1, 2)}, 1, api.ErrNone},
	{[]api.Event{think(0), hear(0, api.MaxWords), say(0, api.MaxWords)}, 1, api.ErrNone},

	{[]api.Event{say(0, 1), hear(0, 1)}, 1, api.ErrShape},
	{[]api.Event{say(4, 30), hear(1, 30), hear(4, 30)}, 2, api.ErrShape},
	{[]api.Event{say(0, 1), say(1, 2), hear(0, 2), hear(0, 1)}, 3, api.ErrShape},
	{[]api.Event{say(0, 1), hear(0, 1), hear(0, 1)}, 1, api.ErrShape},

	// Of several faults of one event, the one that is named first is told.
	{[]api.Event{say(0, 1), say(api.Members, 1)}, 1, api.ErrRange},
	{[]api.Event{say(0, 1), {Who: 0, What: api.Think, Word: 1}}, 1, api.ErrRange},
	{[]api.Event{think(0), hear(-1, 9)}, 1, api.ErrRange},

	// The first event that is wrong is told, whatever is wrong with a later one.
	{[]api.Event{hear(1, 1), think(-1)}, 0, api.ErrNone},
	{[]api.Event{say(0, 1), hear(0, 1), say(1, 1)}, 1, api.ErrShape},
	{[]api.Event{say(0, 1), say(0, 1), hear(2, 9)}, 1, api.ErrClash},
	{[]api.Event{say(0, 1), think(9), say(0, 1)}, 1, api.ErrRange},
	{append(thoughts(api.MaxEvents-1), think(api.Members)), api.MaxEvents - 1, api.ErrRange},
}

func TestCheckOfWhatIsWrong(t *testing.T) {
	for i, f := range faulty {
		if at, err := Check(f.h); at != f.at || plain.Told(err) != f.want {
			t.Errorf("faulty %d: Check = %d, %v, want %d, %v", i, at, err, f.at, f.want)
		}
	}
}

func TestBeforeAndPast(t *testing.T) {
	for k, want := range pasts {
		past, err := Past(talk, k)
		if err != nil || !slices.Equal(past, want) {
			t.Errorf("Past(%d) = %v, %v, want %v", k, past, err, want)
		}
		for i := range talk {
			is, err := Before(talk, i, k)
			if err != nil || is != slices.Contains(want, i) {
				t.Errorf("Before(%d, %d) = %v, %v, past is %v", i, k, is, err, want)
			}
		}
	}
}

func TestPastOfTheLongest(t *testing.T) {
	h := []api.Event{}
	for at := range api.MaxEvents / 2 {
		h = append(h, say(at%2, at+1), hear(1-at%2, at+1))
	}
	past, err := Past(h, api.MaxEvents-1)
	if err != nil || len(past) != api.MaxEvents-1 {
		t.Fatalf("Past = %v, %v, want all that are ahead", past, err)
	}
	for i, at := range past {
		if i != at {
			t.Fatalf("Past = %v, want it rising from 0", past)
		}
	}
	if is, err := Before(h, 0, api.MaxEvents-1); err != nil || !is {
		t.Errorf("Before of the first and the last = %v, %v, want true", is, err)
	}
	if is, err := Before(h, api.MaxEvents-1, 0); err != nil || is {
		t.Errorf("Before of the last and the first = %v, %v, want false", is, err)
	}
}

func TestPlacesThatAreNone(t *testing.T) {
	for _, h := range [][]api.Event{nil, {}, {think(2)}, talk} {
		for _, at := range []int{math.MinInt, -1, len(h), len(h) + 1, math.MaxInt} {
			if past, err := Past(h, at); plain.Told(err) != api.ErrRange || past != nil {
				t.Errorf("Past(%d) of %d events = %v, %v, want nil, ErrRange", at, len(h), past, err)
			}
			for _, other := range []int{-1, 0, len(h) - 1, len(h)} {
				if is, err := Before(h, at, other); plain.Told(err) != api.ErrRange || is {
					t.Errorf("Before(%d, %d) of %d events = %v, %v, want false, ErrRange", at, other, len(h), is, err)
				}
				if is, err := Before(h, other, at); plain.Told(err) != api.ErrRange || is {
					t.Errorf("Before(%d, %d) of %d events = %v, %v, want false, ErrRange", other, at, len(h), is, err)
				}
			}
		}
	}
}

// TestCheckIsToldFirst asks with places and numbers that are wrong too, and with some that are right.
func TestCheckIsToldFirst(t *testing.T) {
	for i, f := range faulty {
		for _, at := range []int{-1, 0, len(f.h)} {
			if is, err := Before(f.h, at, 0); plain.Told(err) != f.want || is {
				t.Errorf("faulty %d: Before = %v, %v, want false, %v", i, is, err, f.want)
			}
			if past, err := Past(f.h, at); plain.Told(err) != f.want || past != nil {
				t.Errorf("faulty %d: Past = %v, %v, want nil, %v", i, past, err, f.want)
			}
		}
		for _, many := range [][]int{nil, {-1}, {0, 0, 0, 0, 0}, {-1, 0, 0, 0, 0}, {99, 0, 0, 0, 0}} {
			if is, err := Cut(f.h, many); plain.Told(err) != f.want || is {
				t.Errorf("faulty %d: Cut of %v = %v, %v, want false, %v", i, many, is, err, f.want)
			}
		}
	}
}

func TestCut(t *testing.T) {
	for _, c := range []struct {
		h    []api.Event
		many []int
		want bool
	}{
		{nil, []int{0, 0, 0, 0, 0}, true},
		{talk, []int{0, 0, 0, 0, 0}, true},
		{talk, []int{3, 2, 2, 1, 2}, true},
		{talk, []int{0, 0, 0, 0, 2}, true},
		{talk, []int{2, 1, 0, 0, 0}, true},
		{talk, []int{2, 2, 0, 0, 0}, true},
		{talk, []int{2, 0, 1, 1, 0}, true},
		{talk, []int{1, 1, 0, 0, 0}, false},
		{talk, []int{0, 1, 0, 0, 0}, false},
		{talk, []int{0, 0, 1, 0, 0}, false},
		{talk, []int{2, 1, 2, 1, 0}, false},
		{talk, []int{0, 0, 2, 1, 0}, false},
		{talk, []int{3, 1, 0, 0, 0}, false},
		{talk, []int{3, 2, 2, 0, 2}, false},
		{talk, []int{1, 2, 2, 1, 2}, false},
		{thoughts(api.MaxEvents), []int{12, 0, 12, 3, 12}, true},
	} {
		if is, err := Cut(c.h, c.many); err != nil || is != c.want {
			t.Errorf("Cut of %d events, %v = %v, %v, want %v", len(c.h), c.many, is, err, c.want)
		}
	}
}

func TestCutWithFaults(t *testing.T) {
	for _, c := range []struct {
		h    []api.Event
		many []int
		want api.Errno
	}{
		{talk, nil, api.ErrShape},
		{talk, []int{}, api.ErrShape},
		{talk, []int{0, 0, 0, 0}, api.ErrShape},
		{talk, []int{0, 0, 0, 0, 0, 0}, api.ErrShape},
		{talk, []int{-1, 0, 0, 0}, api.ErrShape},
		{talk, []int{99, 0, 0, 0, 0, 0}, api.ErrShape},
		{nil, make([]int, 1_000_000), api.ErrShape},
		{nil, []int{1, 0, 0, 0, 0}, api.ErrRange},
		{nil, []int{0, 0, 0, 0, -1}, api.ErrRange},
		{talk, []int{4, 0, 0, 0, 0}, api.ErrRange},
		{talk, []int{0, 3, 0, 0, 0}, api.ErrRange},
		{talk, []int{3, 2, 3, 1, 2}, api.ErrRange},
		{talk, []int{0, 0, 0, 2, 0}, api.ErrRange},
		{talk, []int{3, 2, 2, 1, 3}, api.ErrRange},
		{talk, []int{-1, 0, 0, 0, 0}, api.ErrRange},
		{talk, []int{0, 0, -1, 0, 0}, api.ErrRange},
		{talk, []int{0, 2, 0, 0, -1}, api.ErrRange},
		{talk, []int{math.MaxInt, 0, 0, 0, 0}, api.ErrRange},
		{talk, []int{0, 0, 0, 0, math.MinInt}, api.ErrRange},
	} {
		if is, err := Cut(c.h, c.many); plain.Told(err) != c.want || is {
			t.Errorf("Cut of %d events, %v = %v, %v, want false, %v", len(c.h), c.many, is, err, c.want)
		}
	}
}

// some events, of which TestAllShort makes every short history.
func some() []api.Event {
	var all []api.Event
	for _, who := range []int{0, 2, 4} {
		all = append(all, think(who), say(who, 1), say(who, 2), hear(who, 1), hear(who, 2))
	}
	return all
}

// wrong tells by looking at each pair, and with a history that ends at the first fault.
func wrong(h []api.Event) (int, api.Errno) {
	for at, e := range h {
		said, heard, own := 0, 0, 0
		for _, f := range h[:at] {
			if e.What == api.Think || f.Word != e.Word {
				continue
			}
			if f.What == api.Say {
				said++
				if f.Who == e.Who {
					own++
				}
			} else if f.Who == e.Who {
				heard++
			}
		}
		if e.What == api.Say && said > 0 || e.What == api.Hear && heard > 0 {
			return at, api.ErrClash
		}
		if e.What == api.Hear && said == 0 {
			return at, api.ErrNone
		}
		if e.What == api.Hear && own > 0 {
			return at, api.ErrShape
		}
	}
	return 0, api.OK
}

// ahead tells of all pairs which is ahead of which, one over the other until nothing more comes of it.
func ahead(h []api.Event) [][]bool {
	is := make([][]bool, len(h))
	for i := range h {
		is[i] = make([]bool, len(h))
		for k := range h {
			is[i][k] = h[i].Who == h[k].Who && i < k ||
				h[i].What == api.Say && h[k].What == api.Hear && h[i].Word == h[k].Word
		}
	}
	for over := range h {
		for i := range h {
			for k := range h {
				is[i][k] = is[i][k] || is[i][over] && is[over][k]
			}
		}
	}
	return is
}

// closed tells whether what is ahead of any that is taken is taken.
func closed(h []api.Event, is [][]bool, many []int) bool {
	var done [api.Members]int
	taken := make([]bool, len(h))
	for at, e := range h {
		taken[at] = done[e.Who] < many[e.Who]
		done[e.Who]++
	}
	for i := range h {
		for k := range h {
			if is[i][k] && taken[k] && !taken[i] {
				return false
			}
		}
	}
	return true
}

func compareAll(t *testing.T, h []api.Event) {
	t.Helper()
	is := ahead(h)
	for k := range h {
		var want []int
		for i := range h {
			if is[i][k] {
				want = append(want, i)
			}
			if got, err := Before(h, i, k); err != nil || got != is[i][k] {
				t.Fatalf("%v: Before(%d, %d) = %v, %v", h, i, k, got, err)
			}
		}
		if got, err := Past(h, k); err != nil || !slices.Equal(got, want) {
			t.Fatalf("%v: Past(%d) = %v, %v, want %v", h, k, got, err, want)
		}
	}
	var has [api.Members]int
	for _, e := range h {
		has[e.Who]++
	}
	for a := range has[0] + 1 {
		for b := range has[2] + 1 {
			for c := range has[4] + 1 {
				many := []int{a, 0, b, 0, c}
				if got, err := Cut(h, many); err != nil || got != closed(h, is, many) {
					t.Fatalf("%v: Cut(%v) = %v, %v", h, many, got, err)
				}
			}
		}
	}
}

func TestAllShort(t *testing.T) {
	const longest = 5
	events := some()
	right := 0
	var grow func(h []api.Event)
	grow = func(h []api.Event) {
		wantAt, want := wrong(h)
		if at, err := Check(h); at != wantAt || plain.Told(err) != want {
			t.Fatalf("Check(%v) = %d, %v, want %d, %v", h, at, err, wantAt, want)
		}
		if want != api.OK {
			return
		}
		right++
		compareAll(t, h)
		if len(h) == longest {
			return
		}
		for _, e := range events {
			grow(append(slices.Clone(h), e))
		}
	}
	grow(nil)
	if right < 1000 {
		t.Errorf("only %d histories were right", right)
	}
}

// askAll makes every call once, and gives what they answer.
func askAll(t *testing.T, h []api.Event, many []int) (bool, []int, bool) {
	t.Helper()
	if at, err := Check(h); at != 0 || err != nil {
		t.Fatalf("Check = %d, %v", at, err)
	}
	is, err := Before(h, 1, 6)
	past, bad := Past(h, 6)
	cut, ill := Cut(h, many)
	if err != nil || bad != nil || ill != nil {
		t.Fatalf("errors %v, %v, %v", err, bad, ill)
	}
	return is, past, cut
}

func TestArgumentsStayAsTheyAre(t *testing.T) {
	whole := append(slices.Clone(talk), think(-7), say(99, 99), hear(1, 1))
	numbers := []int{2, 2, 0, 0, 0, 77, -77}
	wasWhole, wasNumbers := slices.Clone(whole), slices.Clone(numbers)
	is, past, cut := askAll(t, whole[:len(talk)], numbers[:api.Members])
	if !is || !slices.Equal(past, pasts[6]) || !cut {
		t.Errorf("Before %v, Past %v, Cut %v", is, past, cut)
	}
	if !slices.Equal(whole, wasWhole) || !slices.Equal(numbers, wasNumbers) {
		t.Errorf("arguments became %v and %v", whole, numbers)
	}
	if _, err := Cut(whole[:len(talk)], numbers); plain.Told(err) != api.ErrShape || !slices.Equal(numbers, wasNumbers) {
		t.Errorf("Cut told %v, and left %v", err, numbers)
	}
}

func TestAnswersAreFresh(t *testing.T) {
	h := slices.Clone(talk)
	many := []int{2, 2, 0, 0, 0}
	_, first, _ := askAll(t, h, many)
	_, second, _ := askAll(t, h, many)
	first = first[:cap(first)]
	for i := range first {
		first[i] = -5
	}
	if !slices.Equal(second, pasts[6]) || !slices.Equal(h, talk) {
		t.Errorf("writing into one answer changed another to %v, or the history to %v", second, h)
	}
	for i := range h {
		h[i] = think(0)
	}
	if !slices.Equal(second, pasts[6]) {
		t.Errorf("writing into the history changed an answer to %v", second)
	}
	if past, err := Past(talk, 6); err != nil || !slices.Equal(past, pasts[6]) {
		t.Errorf("asked once more: Past = %v, %v", past, err)
	}
}
