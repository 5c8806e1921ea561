package picture

import (
	"math"
	"slices"
	"testing"

	"mootbell/api"
	"mootbell/plain"
)

// call is one of what may move something: a Begin has only from.
type call struct {
	what        string
	from, to, n int
}

func pay(from, to, n int) call { return call{"pay", from, to, n} }

func come(from, to int) call { return call{"come", from, to, 0} }

func begin(who int) call { return call{"begin", who, 0, 0} }

// told is what a call answers: what it does not answer is 0.
type told struct {
	n     int
	errno api.Errno
}

// asked lets members do what is asked of them.
func asked(p *Picture, c call) told {
	switch c.what {
	case "pay":
		return told{errno: plain.Told(p.Pay(c.from, c.to, c.n))}
	case "come":
		n, err := p.Come(c.from, c.to)
		return told{n, plain.Told(err)}
	}
	return told{errno: plain.Told(p.Begin(c.from))}
}

// group makes members with gold.
func group(t *testing.T, gold ...int) *Picture {
	t.Helper()
	p, err := New(gold)
	if err != nil || p == nil {
		t.Fatalf("New(%v) = %v, %v", gold, p, err)
	}
	return p
}

// same is a list of one number, so many times.
func same(n, times int) []int { return slices.Repeat([]int{n}, times) }

// pays sends gold on a way, once for each number.
func pays(t *testing.T, p *Picture, from, to int, gold ...int) {
	t.Helper()
	for _, n := range gold {
		if err := p.Pay(from, to, n); err != nil {
			t.Fatalf("Pay(%d, %d, %d) told %v", from, to, n, err)
		}
	}
}

// comes asks that so much comes on a way, one behind the other.
func comes(t *testing.T, p *Picture, from, to int, want ...int) {
	t.Helper()
	for _, n := range want {
		if got, err := p.Come(from, to); got != n || err != nil {
			t.Fatalf("Come(%d, %d) = %d, %v, want %d", from, to, got, err, n)
		}
	}
}

func begins(t *testing.T, p *Picture, who int) {
	t.Helper()
	if err := p.Begin(who); err != nil {
		t.Fatalf("Begin(%d) told %v", who, err)
	}
}

// has asks how much each member has.
func has(t *testing.T, p *Picture, want ...int) {
	t.Helper()
	for who, n := range want {
		if got, err := p.Gold(who); got != n || err != nil {
			t.Fatalf("Gold(%d) = %d, %v, want %d", who, got, err, n)
		}
	}
}

// onWay asks what is on a way.
func onWay(t *testing.T, p *Picture, from, to int, want ...int) {
	t.Helper()
	if got, err := p.OnWay(from, to); !slices.Equal(got, want) || err != nil {
		t.Fatalf("OnWay(%d, %d) = %v, %v, want %v", from, to, got, err, want)
	}
}

// notDone asks that there is no picture yet.
func notDone(t *testing.T, p *Picture) {
	t.Helper()
	if p.Done() {
		t.Fatal("Done() = true, want false")
	}
	if sum, err := p.Sum(); sum != (api.Sum{}) || plain.Told(err) != api.ErrState {
		t.Fatalf("Sum() = %v, %v, want nothing, %v", sum, err, api.ErrState)
	}
}

// shows asks what is on the picture.
func shows(t *testing.T, p *Picture, had, way int) {
	t.Helper()
	if !p.Done() {
		t.Fatal("Done() = false, want true")
	}
	if sum, err := p.Sum(); sum != (api.Sum{Had: had, OnWay: way}) || err != nil {
		t.Fatalf("Sum() = %v, %v, want {%d %d}", sum, err, had, way)
	}
}

// size is how many members there are.
func size(p *Picture) int {
	n := 0
	for {
		if _, err := p.Gold(n); err != nil {
			return n
		}
		n++
	}
}

// looks at all that can be looked at: the gold of all, each way, and the picture.
func looks(t *testing.T, p *Picture) [][]int {
	t.Helper()
	var seen [][]int
	n := size(p)
	for who := range n {
		gold, err := p.Gold(who)
		if err != nil {
			t.Fatalf("Gold(%d) told %v", who, err)
		}
		seen = append(seen, []int{gold})
	}
	for from := range n {
		for to := range n {
			if from == to {
				continue
			}
			l, err := p.OnWay(from, to)
			if err != nil {
				t.Fatalf("OnWay(%d, %d) told %v", from, to, err)
			}
			seen = append(seen, l)
		}
	}
	sum, err := p.Sum()
	if p.Done() != (err == nil) || !p.Done() && sum != (api.Sum{}) {
		t.Fatalf("Done() = %v, but Sum() = %v, %v", p.Done(), sum, err)
	}
	return append(seen, []int{sum.Had, sum.OnWay, int(plain.Told(err))})
}

// refuses asks for what is told to be wrong: nothing is answered, nor does anything change that can be
// looked at.
func refuses(t *testing.T, p *Picture, want api.Errno, calls ...call) {
	t.Helper()
	for _, c := range calls {
		ahead := looks(t, p)
		if got := asked(p, c); got != (told{0, want}) {
			t.Fatalf("%v = %v, want 0, %v", c, got, want)
		}
		if behind := looks(t, p); !slices.EqualFunc(ahead, behind, slices.Equal) {
			t.Fatalf("%v changed what there is from %v to %v", c, ahead, behind)
		}
	}
}

// noMembers are numbers that no member is among so many.
func noMembers(n int) []int {
	return []int{math.MinInt, math.MinInt32, -n, -2, -1, n, n + 1, api.Members, api.Members + 1, api.MaxGold, math.MaxInt32, math.MaxInt}
}

// noGold are numbers that no Pay is of.
func noGold() []int {
	return []int{math.MinInt, math.MinInt32, -api.MaxGold, -2, -1, 0, api.MaxGold + 1, api.MaxGold + 2, api.MaxCount, math.MaxInt32, math.MaxInt}
}

// finish lets all that is on the ways come, way by way, again and again, until nothing is there.
func finish(t *testing.T, p *Picture) {
	t.Helper()
	n := size(p)
	for moved := true; moved; {
		moved = false
		for from := range n {
			for to := range n {
				if _, err := p.Come(from, to); err == nil {
					moved = true
				}
			}
		}
	}
}

func TestGroupsOfAllSizes(t *testing.T) {
	for n := 2; n <= api.Members; n++ {
		for _, gold := range []int{0, 1, 500, api.MaxGold - 1, api.MaxGold} {
			p := group(t, same(gold, n)...)
			has(t, p, same(gold, n)...)
			if got := size(p); got != n {
				t.Fatalf("%d members, want %d", got, n)
			}
			for from := range n {
				for to := range n {
					if from != to {
						onWay(t, p, from, to)
						refuses(t, p, api.ErrNone, come(from, to))
					}
				}
			}
			notDone(t, p)
		}
	}
}

func TestEachHasItsOwnGold(t *testing.T) {
	p := group(t, 0, api.MaxGold, 7, 1, 0)
	has(t, p, 0, api.MaxGold, 7, 1, 0)
	p = group(t, api.MaxGold, 0)
	has(t, p, api.MaxGold, 0)
}

func TestNoGroup(t *testing.T) {
	lists := [][]int{nil, {}, {0}, {1}, {api.MaxGold}, {-1}, {api.MaxGold + 1}}
	for _, n := range []int{api.Members + 1, api.Members + 2, 100, 10_000} {
		lists = append(lists, same(1, n), same(-1, n), same(api.MaxGold+1, n))
	}
	for _, wrong := range []int{math.MinInt, math.MinInt32, -2, -1, api.MaxGold + 1, api.MaxGold + 2, math.MaxInt32, math.MaxInt} {
		for n := 1; n <= api.Members+1; n++ {
			for at := range n {
				l := same(3, n)
				l[at] = wrong
				lists = append(lists, l)
			}
			lists = append(lists, same(wrong, n))
		}
	}
	for _, l := range lists {
		if p, err := New(l); p != nil || plain.Told(err) != api.ErrRange {
			t.Errorf("New(%v) = %v, %v, want nothing, %v", l, p, err, api.ErrRange)
		}
	}
}

func TestPayAndCome(t *testing.T) {
	p := group(t, 10, 20, 30)
	pays(t, p, 0, 2, 4)
	has(t, p, 6, 20, 30)
	onWay(t, p, 0, 2, 4)
	onWay(t, p, 2, 0)
	onWay(t, p, 0, 1)
	comes(t, p, 0, 2, 4)
	has(t, p, 6, 20, 34)
	onWay(t, p, 0, 2)
	refuses(t, p, api.ErrNone, come(0, 2))
	notDone(t, p)
}

// One, the most that can be sent, and all that one has.
func TestPayAtItsEdges(t *testing.T) {
	p := group(t, api.MaxGold, 1, 0)
	pays(t, p, 0, 1, 1, api.MaxGold-1)
	has(t, p, 0, 1, 0)
	refuses(t, p, api.ErrNone, pay(0, 1, 1), pay(0, 2, api.MaxGold))
	pays(t, p, 1, 2, 1)
	has(t, p, 0, 0, 0)
	refuses(t, p, api.ErrNone, pay(1, 2, 1), pay(2, 0, 1))
	comes(t, p, 0, 1, 1, api.MaxGold-1)
	comes(t, p, 1, 2, 1)
	has(t, p, 0, api.MaxGold, 1)
	pays(t, p, 1, 2, api.MaxGold)
	comes(t, p, 1, 2, api.MaxGold)
	has(t, p, 0, 0, api.MaxGold+1)
	// One may have more than can be sent at once.
	refuses(t, p, api.ErrRange, pay(2, 0, api.MaxGold+1))
	pays(t, p, 2, 0, api.MaxGold)
	has(t, p, 0, 0, 1)
	refuses(t, p, api.ErrNone, pay(2, 0, 2))
}

func TestAllGoldWithOne(t *testing.T) {
	p := group(t, same(api.MaxGold, api.Members)...)
	for from := range api.Members - 1 {
		pays(t, p, from, api.Members-1, api.MaxGold)
		comes(t, p, from, api.Members-1, api.MaxGold)
	}
	has(t, p, 0, 0, 0, 0, api.Members*api.MaxGold)
	begins(t, p, 2)
	finish(t, p)
	shows(t, p, api.Members*api.MaxGold, 0)
}

// What is on its way is with nobody.
func TestGoldOnItsWayCannotBePaid(t *testing.T) {
	p := group(t, 5, 0)
	pays(t, p, 0, 1, 3)
	refuses(t, p, api.ErrNone, pay(0, 1, 3), pay(1, 0, 1))
	comes(t, p, 0, 1, 3)
	refuses(t, p, api.ErrNone, pay(1, 0, 4), pay(0, 1, 3))
	pays(t, p, 1, 0, 3)
	pays(t, p, 0, 1, 2)
	has(t, p, 0, 0)
}

// Each way by itself, also the two between the same two.
func TestWhatIsSentComesInOrder(t *testing.T) {
	p := group(t, 100, 100, 100)
	pays(t, p, 0, 1, 5, 1, 3)
	pays(t, p, 1, 0, 9, 2)
	pays(t, p, 0, 2, 8)
	pays(t, p, 0, 1, 5)
	pays(t, p, 2, 1, 6, 7)
	onWay(t, p, 0, 1, 5, 1, 3, 5)
	onWay(t, p, 1, 0, 9, 2)
	onWay(t, p, 0, 2, 8)
	onWay(t, p, 2, 0)
	onWay(t, p, 1, 2)
	onWay(t, p, 2, 1, 6, 7)
	comes(t, p, 2, 1, 6)
	comes(t, p, 0, 1, 5, 1)
	comes(t, p, 1, 0, 9)
	onWay(t, p, 0, 1, 3, 5)
	onWay(t, p, 1, 0, 2)
	pays(t, p, 0, 1, 4)
	comes(t, p, 0, 1, 3, 5, 4)
	comes(t, p, 1, 0, 2)
	comes(t, p, 0, 2, 8)
	comes(t, p, 2, 1, 7)
	has(t, p, 100-5-1-3-8-5-4+9+2, 100-9-2+5+1+3+5+4+6+7, 100-6-7+8)
}

func TestAWayIsFull(t *testing.T) {
	p := group(t, api.MaxGold, api.MaxGold, 3)
	pays(t, p, 0, 1, same(2, api.MaxOnWay-1)...)
	pays(t, p, 0, 1, 3)
	has(t, p, api.MaxGold-2*api.MaxOnWay-1, api.MaxGold, 3)
	refuses(t, p, api.ErrFull, pay(0, 1, 1), pay(0, 1, api.MaxGold-2*api.MaxOnWay-1))
	// The other ways have room.
	pays(t, p, 1, 0, same(1, api.MaxOnWay)...)
	pays(t, p, 0, 2, 1)
	pays(t, p, 2, 1, 1)
	refuses(t, p, api.ErrFull, pay(1, 0, 1), pay(0, 1, 1))
	comes(t, p, 0, 1, 2)
	pays(t, p, 0, 1, 4)
	refuses(t, p, api.ErrFull, pay(0, 1, 1))
	onWay(t, p, 0, 1, append(same(2, api.MaxOnWay-2), 3, 4)...)
	comes(t, p, 0, 1, append(same(2, api.MaxOnWay-2), 3, 4)...)
	refuses(t, p, api.ErrNone, come(0, 1))
	pays(t, p, 0, 1, 1)
}

// A mark finds room on a way that is full, and takes up some on one that is not.
func TestAMarkWhereMaxOnWayAre(t *testing.T) {
	for _, n := range []int{api.MaxOnWay - 2, api.MaxOnWay - 1, api.MaxOnWay} {
		p := group(t, api.MaxGold, api.MaxGold)
		pays(t, p, 0, 1, same(1, n)...)
		begins(t, p, 0)
		onWay(t, p, 0, 1, append(same(1, n), 0)...)
		there := n + 1
		for there > api.MaxOnWay-1 {
			refuses(t, p, api.ErrFull, pay(0, 1, 1))
			comes(t, p, 0, 1, 1)
			there--
		}
		pays(t, p, 0, 1, 7)
		refuses(t, p, api.ErrFull, pay(0, 1, 1))
		onWay(t, p, 0, 1, append(same(1, api.MaxOnWay-2), 0, 7)...)
		comes(t, p, 0, 1, append(same(1, api.MaxOnWay-2), 0, 7)...)
		notDone(t, p)
		comes(t, p, 1, 0, 0)
		// All that was ahead of the mark came ahead of the writing down.
		shows(t, p, 2*api.MaxGold, 0)
	}
}

// Also a mark that is sent because another one came.
func TestAMarkBackWhereMaxOnWayAre(t *testing.T) {
	p := group(t, 10, 100, 0)
	pays(t, p, 1, 0, same(1, api.MaxOnWay)...)
	pays(t, p, 1, 2, same(1, api.MaxOnWay-1)...)
	begins(t, p, 0)
	comes(t, p, 0, 1, 0)
	onWay(t, p, 1, 0, append(same(1, api.MaxOnWay), 0)...)
	onWay(t, p, 1, 2, append(same(1, api.MaxOnWay-1), 0)...)
	refuses(t, p, api.ErrFull, pay(1, 0, 1), pay(1, 2, 1))
	comes(t, p, 1, 0, append(same(1, api.MaxOnWay), 0)...)
	comes(t, p, 1, 2, append(same(1, api.MaxOnWay-1), 0)...)
	notDone(t, p)
	comes(t, p, 0, 2, 0)
	comes(t, p, 2, 0, 0)
	notDone(t, p)
	comes(t, p, 2, 1, 0)
	// What came to 0 had written down its gold; what came to 2 had not.
	shows(t, p, 10+(100-2*api.MaxOnWay+1)+api.MaxOnWay-1, api.MaxOnWay)
}

func TestBeginOfEachMember(t *testing.T) {
	for n := 2; n <= api.Members; n++ {
		for who := range n {
			p := group(t, []int{1, 20, 300, 4, 50}[:n]...)
			notDone(t, p)
			begins(t, p, who)
			notDone(t, p)
			for from := range n {
				for to := range n {
					switch {
					case from == to:
					case from == who:
						onWay(t, p, from, to, 0)
					default:
						onWay(t, p, from, to)
					}
				}
			}
			has(t, p, []int{1, 20, 300, 4, 50}[:n]...)
		}
	}
}

// A mark that comes to who has written down nothing is sent on, on all ways, also back.
func TestAMarkIsSentOnOnce(t *testing.T) {
	p := group(t, 1, 2, 3, 4)
	begins(t, p, 2)
	comes(t, p, 2, 0, 0)
	onWay(t, p, 0, 1, 0)
	onWay(t, p, 0, 2, 0)
	onWay(t, p, 0, 3, 0)
	onWay(t, p, 2, 0)
	onWay(t, p, 2, 1, 0)
	onWay(t, p, 2, 3, 0)
	onWay(t, p, 1, 0)
	onWay(t, p, 3, 0)
	// Who has written down its gold sends none.
	comes(t, p, 0, 2, 0)
	for _, to := range []int{0, 1, 3} {
		onWay(t, p, 2, to, [][]int{{}, {0}, {0}, {0}}[to]...)
	}
	comes(t, p, 0, 1, 0)
	onWay(t, p, 1, 0, 0)
	onWay(t, p, 1, 2, 0)
	onWay(t, p, 1, 3, 0)
	comes(t, p, 2, 1, 0)
	onWay(t, p, 1, 0, 0)
	onWay(t, p, 1, 2, 0)
	onWay(t, p, 1, 3, 0)
	has(t, p, 1, 2, 3, 4)
	notDone(t, p)
}

// Gold behind the mark is behind it on the way, too.
func TestAMarkStandsInOrder(t *testing.T) {
	p := group(t, 10, 10)
	pays(t, p, 0, 1, 1)
	begins(t, p, 0)
	pays(t, p, 0, 1, 2)
	onWay(t, p, 0, 1, 1, 0, 2)
	comes(t, p, 0, 1, 1, 0)
	onWay(t, p, 0, 1, 2)
	pays(t, p, 1, 0, 5)
	onWay(t, p, 1, 0, 0, 5)
	comes(t, p, 1, 0, 0)
	// What is behind the marks is with 0 and with 1 on the picture.
	shows(t, p, 20, 0)
	has(t, p, 7, 6)
}

func TestNothingOnTheWay(t *testing.T) {
	for n := 2; n <= api.Members; n++ {
		for who := range n {
			p := group(t, []int{1, 20, 300, 0, 1000}[:n]...)
			begins(t, p, who)
			finish(t, p)
			shows(t, p, []int{0, 1, 21, 321, 321, 1321}[n], 0)
			has(t, p, []int{1, 20, 300, 0, 1000}[:n]...)
		}
	}
}

func TestNoGoldAtAll(t *testing.T) {
	p := group(t, 0, 0)
	begins(t, p, 1)
	comes(t, p, 1, 0, 0)
	notDone(t, p)
	comes(t, p, 0, 1, 0)
	shows(t, p, 0, 0)
}

// Gold that was sent ahead of the mark and comes ahead of it is in what the other one writes down.
func TestGoldAheadOfTheMarkToWhoHasNotWritten(t *testing.T) {
	p := group(t, 10, 20)
	pays(t, p, 0, 1, 3, 4)
	begins(t, p, 0)
	comes(t, p, 0, 1, 3, 4, 0)
	comes(t, p, 1, 0, 0)
	shows(t, p, 30, 0)
}

// On one way gold comes ahead of the writing down, between that and the mark, and behind the mark.
func TestWhenGoldComes(t *testing.T) {
	p := group(t, 100, 100)
	pays(t, p, 1, 0, 1, 2, 4)
	comes(t, p, 1, 0, 1)
	begins(t, p, 0)
	pays(t, p, 1, 0, 8)
	comes(t, p, 0, 1, 0)
	pays(t, p, 1, 0, 16)
	onWay(t, p, 1, 0, 2, 4, 8, 0, 16)
	comes(t, p, 1, 0, 2, 4, 8)
	notDone(t, p)
	comes(t, p, 1, 0, 0)
	shows(t, p, 101+85, 2+4+8)
	comes(t, p, 1, 0, 16)
	shows(t, p, 101+85, 2+4+8)
	has(t, p, 131, 69)
}

// Each way is minded by itself, until its own mark.
func TestEachWayHasItsOwnMark(t *testing.T) {
	p := group(t, 100, 100, 200)
	pays(t, p, 1, 0, 1)
	pays(t, p, 2, 0, 2)
	pays(t, p, 2, 1, 4)
	begins(t, p, 0)
	comes(t, p, 0, 1, 0)
	comes(t, p, 1, 0, 1, 0)
	pays(t, p, 1, 0, 8)
	comes(t, p, 1, 0, 8)
	comes(t, p, 2, 0, 2)
	pays(t, p, 2, 0, 16)
	pays(t, p, 2, 1, 32)
	comes(t, p, 1, 2, 0)
	pays(t, p, 2, 0, 64)
	comes(t, p, 2, 0, 16, 0, 64)
	comes(t, p, 0, 2, 0)
	notDone(t, p)
	comes(t, p, 2, 1, 4, 32)
	notDone(t, p)
	comes(t, p, 2, 1, 0)
	had := 100 + (100 - 1) + (200 - 2 - 4 - 16 - 32)
	shows(t, p, had, 1+2+16+4+32)
	has(t, p, 100+1+2+8+16+64, 100-1-8+4+32, 200-2-4-16-32-64)
}

// What was on the way of the mark by which one writes down its gold is nothing, whatever comes there later.
func TestTheWayOfTheFirstMarkIsNothing(t *testing.T) {
	p := group(t, 50, 50, 50)
	pays(t, p, 0, 1, 1)
	begins(t, p, 0)
	pays(t, p, 0, 1, 2)
	comes(t, p, 0, 1, 1, 0, 2)
	comes(t, p, 0, 2, 0)
	comes(t, p, 1, 0, 0)
	comes(t, p, 2, 0, 0)
	comes(t, p, 1, 2, 0)
	pays(t, p, 0, 1, 4)
	comes(t, p, 0, 1, 4)
	notDone(t, p)
	comes(t, p, 2, 1, 0)
	shows(t, p, 49+51+50, 0)
}

// Of all 20 marks of all members, in two orders, the last one makes the picture.
func TestDoneOnlyWithTheLastMark(t *testing.T) {
	for n := 2; n <= api.Members; n++ {
		for who := range n {
			for _, last := range []bool{false, true} {
				p := group(t, same(9, n)...)
				begins(t, p, who)
				for left := n * (n - 1); left > 0; left-- {
					notDone(t, p)
					w := wayWithMark(t, p, n, last)
					comes(t, p, w.from, w.to, 0)
				}
				shows(t, p, 9*n, 0)
			}
		}
	}
}

// wayWithMark is the first way on which something is, or the last one.
func wayWithMark(t *testing.T, p *Picture, n int, last bool) way {
	t.Helper()
	found := way{-1, -1}
	for from := range n {
		for to := range n {
			if l, err := p.OnWay(from, to); err == nil && len(l) > 0 && (last || found.from < 0) {
				found = way{from, to}
			}
		}
	}
	return found
}

// All have written down their gold long ahead of the last mark.
func TestAllHaveWrittenIsNotDone(t *testing.T) {
	p := group(t, 5, 6, 7)
	pays(t, p, 2, 1, 3)
	begins(t, p, 0)
	comes(t, p, 0, 1, 0)
	comes(t, p, 0, 2, 0)
	notDone(t, p)
	comes(t, p, 1, 0, 0)
	comes(t, p, 2, 0, 0)
	comes(t, p, 1, 2, 0)
	notDone(t, p)
	comes(t, p, 2, 1, 3)
	notDone(t, p)
	comes(t, p, 2, 1, 0)
	shows(t, p, 5+6+4, 3)
}

// A picture that is done stays, whatever moves behind it.
func TestGoldMovesOnBehindAPicture(t *testing.T) {
	p := group(t, 10, 20)
	pays(t, p, 1, 0, 5)
	begins(t, p, 0)
	comes(t, p, 0, 1, 0)
	comes(t, p, 1, 0, 5, 0)
	shows(t, p, 25, 5)
	for round := range 50 {
		n := round%15 + 1
		pays(t, p, 0, 1, n)
		shows(t, p, 25, 5)
		comes(t, p, 0, 1, n)
		shows(t, p, 25, 5)
		pays(t, p, 1, 0, n)
		comes(t, p, 1, 0, n)
		shows(t, p, 25, 5)
		has(t, p, 15, 15)
	}
	pays(t, p, 0, 1, same(1, 15)...)
	refuses(t, p, api.ErrState, begin(0), begin(1))
	shows(t, p, 25, 5)
}

func TestPayTellsTheFirstFault(t *testing.T) {
	p := group(t, api.MaxGold, 41, 0)
	// The way from 0 to 1 is full, and so is that from 1 to 0, of one who has 1 left.
	pays(t, p, 0, 1, same(1, api.MaxOnWay)...)
	pays(t, p, 1, 0, same(1, api.MaxOnWay)...)
	for _, no := range noMembers(3) {
		refuses(t, p, api.ErrRange, pay(no, 0, 1), pay(0, no, 1), pay(no, no, 1), pay(2, no, 1), pay(no, 2, api.MaxGold))
		for _, n := range noGold() {
			refuses(t, p, api.ErrRange, pay(no, 1, n), pay(1, no, n), pay(no, no, n))
		}
		for _, other := range noMembers(3) {
			refuses(t, p, api.ErrRange, pay(no, other, 1))
		}
	}
	for who := range 3 {
		refuses(t, p, api.ErrShape, pay(who, who, 1), pay(who, who, api.MaxGold))
		for _, n := range noGold() {
			refuses(t, p, api.ErrShape, pay(who, who, n))
			refuses(t, p, api.ErrRange, pay(who, (who+1)%3, n), pay(who, (who+2)%3, n))
		}
	}
	refuses(t, p, api.ErrNone, pay(2, 0, 1), pay(2, 1, api.MaxGold), pay(1, 2, 2), pay(0, 2, api.MaxGold))
	refuses(t, p, api.ErrNone, pay(1, 0, 2), pay(0, 1, api.MaxGold-api.MaxOnWay+1), pay(0, 1, api.MaxGold))
	refuses(t, p, api.ErrFull, pay(1, 0, 1), pay(0, 1, 1), pay(0, 1, api.MaxGold-api.MaxOnWay))
	pays(t, p, 1, 2, 1)
	refuses(t, p, api.ErrNone, pay(1, 0, 1))
}

func TestComeTellsTheFirstFault(t *testing.T) {
	for n := 2; n <= api.Members; n++ {
		p := group(t, same(5, n)...)
		pays(t, p, 0, 1, 2)
		for _, no := range noMembers(n) {
			refuses(t, p, api.ErrRange, come(no, 0), come(0, no), come(no, no), come(1, no), come(no, 1))
			for _, other := range noMembers(n) {
				refuses(t, p, api.ErrRange, come(no, other))
			}
		}
		for who := range n {
			refuses(t, p, api.ErrShape, come(who, who))
		}
		refuses(t, p, api.ErrNone, come(1, 0))
		comes(t, p, 0, 1, 2)
		refuses(t, p, api.ErrNone, come(0, 1), come(1, 0))
		begins(t, p, 0)
		refuses(t, p, api.ErrNone, come(1, 0))
		comes(t, p, 0, 1, 0)
		refuses(t, p, api.ErrNone, come(0, 1))
		comes(t, p, 1, 0, 0)
		refuses(t, p, api.ErrNone, come(1, 0))
	}
}

func TestBeginTellsTheFirstFault(t *testing.T) {
	for n := 2; n <= api.Members; n++ {
		for who := range n {
			p := group(t, same(5, n)...)
			none := func() {
				t.Helper()
				for _, no := range noMembers(n) {
					refuses(t, p, api.ErrRange, begin(no))
				}
			}
			again := func() {
				t.Helper()
				for other := range n {
					refuses(t, p, api.ErrState, begin(other))
				}
			}
			none()
			begins(t, p, who)
			none()
			again()
			comes(t, p, who, (who+1)%n, 0)
			none()
			again()
			finish(t, p)
			shows(t, p, 5*n, 0)
			none()
			again()
			shows(t, p, 5*n, 0)
		}
	}
}

// What was refused is not on the picture, nor keeps one from being begun.
func TestWhatIsRefusedWasNot(t *testing.T) {
	p := group(t, 10, 10)
	refuses(t, p, api.ErrRange, begin(-1), begin(2), pay(0, 1, 0))
	refuses(t, p, api.ErrNone, come(0, 1), pay(0, 1, 11))
	pays(t, p, 1, 0, 4)
	begins(t, p, 0)
	comes(t, p, 1, 0, 4)
	refuses(t, p, api.ErrNone, come(1, 0), pay(1, 0, 7))
	refuses(t, p, api.ErrShape, come(0, 0), pay(1, 1, 1))
	// A second Begin would write down another number, and begin anew with what comes.
	refuses(t, p, api.ErrState, begin(0), begin(1))
	pays(t, p, 1, 0, 1)
	comes(t, p, 1, 0, 1)
	comes(t, p, 0, 1, 0)
	comes(t, p, 1, 0, 0)
	shows(t, p, 10+5, 5)
}

func TestGoldOfNoMember(t *testing.T) {
	for n := 2; n <= api.Members; n++ {
		p := group(t, same(8, n)...)
		for _, no := range noMembers(n) {
			if got, err := p.Gold(no); got != 0 || plain.Told(err) != api.ErrRange {
				t.Errorf("of %d members Gold(%d) = %d, %v, want 0, %v", n, no, got, err, api.ErrRange)
			}
		}
	}
}

func noWay(t *testing.T, p *Picture, from, to int, want api.Errno) {
	t.Helper()
	if got, err := p.OnWay(from, to); got != nil || plain.Told(err) != want {
		t.Errorf("OnWay(%d, %d) = %v, %v, want nothing, %v", from, to, got, err, want)
	}
}

func TestOnWayTellsTheFirstFault(t *testing.T) {
	for n := 2; n <= api.Members; n++ {
		p := group(t, same(8, n)...)
		pays(t, p, 0, 1, 3)
		for _, no := range noMembers(n) {
			for who := range n {
				noWay(t, p, who, no, api.ErrRange)
				noWay(t, p, no, who, api.ErrRange)
			}
			for _, other := range noMembers(n) {
				noWay(t, p, no, other, api.ErrRange)
			}
		}
		for who := range n {
			noWay(t, p, who, who, api.ErrShape)
		}
	}
}

// What is on no way is an empty list, also where something was.
func TestOnWayOfAnEmptyWay(t *testing.T) {
	p := group(t, 3, 0)
	onWay(t, p, 0, 1)
	pays(t, p, 0, 1, 3)
	comes(t, p, 0, 1, 3)
	onWay(t, p, 0, 1)
	onWay(t, p, 1, 0)
}

// scrawl writes into all memory of a list, that behind its length too.
func scrawl(l []int) {
	l = l[:cap(l)]
	for i := range l {
		l[i] = -5
	}
}

// What lies behind a list's length would be one member more, or a fault, if it were read.
func TestArgumentsStayAsTheyAre(t *testing.T) {
	for _, behind := range []int{4, -1, api.MaxGold + 1} {
		whole := []int{10, 20, 30, behind, behind}
		was := slices.Clone(whole)
		p, err := New(whole[:3])
		if err != nil {
			t.Fatal(err)
		}
		if n := size(p); n != 3 {
			t.Fatalf("%d members, want 3", n)
		}
		pays(t, p, 0, 1, 5)
		begins(t, p, 1)
		finish(t, p)
		if _, err := New(whole[:1]); plain.Told(err) != api.ErrRange {
			t.Fatalf("New of one told %v", err)
		}
		if !slices.Equal(whole, was) {
			t.Fatalf("the list became %v, was %v", whole, was)
		}
	}
}

func TestListsMayBeChangedByTheirOwners(t *testing.T) {
	gold := []int{10, 20, 30}
	p := group(t, gold...)
	scrawl(gold)
	has(t, p, 10, 20, 30)
	pays(t, p, 0, 1, 5)
	begins(t, p, 0)
	scrawl(gold)
	finish(t, p)
	shows(t, p, 60, 0)
	has(t, p, 5, 25, 30)
}

func TestAnswersAreTheCallersOwn(t *testing.T) {
	p := group(t, 100, 100)
	pays(t, p, 0, 1, 3, 1, 4)
	begins(t, p, 1)
	comes(t, p, 1, 0, 0)
	pays(t, p, 0, 1, 5)
	for _, left := range [][]int{{3, 1, 4, 0, 5}, {1, 4, 0, 5}, {4, 0, 5}, {0, 5}, {5}} {
		first, _ := p.OnWay(0, 1)
		second, _ := p.OnWay(0, 1)
		scrawl(first)
		if !slices.Equal(second, left) {
			t.Fatalf("writing into an answer changed another one to %v, want %v", second, left)
		}
		onWay(t, p, 0, 1, left...)
		scrawl(second)
		pays(t, p, 1, 0, 1)
		comes(t, p, 0, 1, left[0])
	}
	shows(t, p, 100+100-8, 8)
}

// Answers stay what they were, whatever comes later.
func TestAnswersStayAsTheyWere(t *testing.T) {
	p := group(t, 100, 100)
	pays(t, p, 0, 1, 3, 1)
	first, _ := p.OnWay(0, 1)
	comes(t, p, 0, 1, 3)
	pays(t, p, 0, 1, 4)
	second, _ := p.OnWay(0, 1)
	begins(t, p, 0)
	comes(t, p, 0, 1, 1, 4, 0)
	pays(t, p, 0, 1, 7, 8, 9)
	if !slices.Equal(first, []int{3, 1}) || !slices.Equal(second, []int{1, 4}) {
		t.Errorf("earlier answers became %v and %v", first, second)
	}
}

func TestTwoGroupsShareNothing(t *testing.T) {
	gold := []int{10, 20}
	one, other := group(t, gold...), group(t, gold...)
	pays(t, one, 0, 1, 7)
	has(t, other, 10, 20)
	onWay(t, other, 0, 1)
	begins(t, one, 1)
	notDone(t, other)
	pays(t, other, 1, 0, 20)
	begins(t, other, 0)
	finish(t, one)
	notDone(t, other)
	shows(t, one, 23, 7)
	finish(t, other)
	shows(t, other, 10, 20)
	has(t, one, 3, 27)
	has(t, other, 30, 0)
}

// To look changes nothing, however often.
func TestLooksChangeNothing(t *testing.T) {
	p := group(t, 10, 20, 30)
	pays(t, p, 2, 0, 7)
	begins(t, p, 0)
	for range 7 {
		was := looks(t, p)
		for range 3 {
			if got := looks(t, p); !slices.EqualFunc(got, was, slices.Equal) {
				t.Fatalf("looks became %v, were %v", got, was)
			}
		}
		w := wayWithMark(t, p, 3, true)
		asked(p, come(w.from, w.to))
	}
	shows(t, p, 53, 7)
}

// A way goes on, however much has come on it, ahead of a picture and behind it.
func TestMuchComesOnAWay(t *testing.T) {
	p := group(t, 20, 0)
	pays(t, p, 0, 1, same(1, 10)...)
	around := func() {
		t.Helper()
		for range 200_000 {
			comes(t, p, 0, 1, 1)
			pays(t, p, 1, 0, 1)
			comes(t, p, 1, 0, 1)
			pays(t, p, 0, 1, 1)
		}
		onWay(t, p, 0, 1, same(1, 10)...)
		onWay(t, p, 1, 0)
		has(t, p, 10, 0)
	}
	around()
	begins(t, p, 1)
	comes(t, p, 1, 0, 0)
	comes(t, p, 0, 1, append(same(1, 10), 0)...)
	shows(t, p, 10, 10)
	pays(t, p, 1, 0, 10)
	comes(t, p, 1, 0, 10)
	pays(t, p, 0, 1, same(1, 10)...)
	around()
	shows(t, p, 10, 10)
}
