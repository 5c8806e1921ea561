package net

import (
	"math"
	"slices"
	"testing"

	"mootbell/api"
	"mootbell/plain"
)

// call is one of what a Net is asked, but for All.
type call struct {
	what    string
	a, b, c int
}

func send(from, to, word int) call { return call{"send", from, to, word} }
func give(i int) call              { return call{"give", i, 0, 0} }
func drop(i int) call              { return call{"drop", i, 0, 0} }
func twice(i int) call             { return call{"twice", i, 0, 0} }
func cut(a, b int) call            { return call{"cut", a, b, 0} }
func heal(a, b int) call           { return call{"heal", a, b, 0} }

// asked lets a Net do what is asked of it.
func asked(n *Net, c call) (api.Packet, error) {
	switch c.what {
	case "send":
		return api.Packet{}, n.Send(packet(c.a, c.b, c.c))
	case "give":
		return n.Give(c.a)
	case "drop":
		return api.Packet{}, n.Drop(c.a)
	case "twice":
		return api.Packet{}, n.Twice(c.a)
	}
	return api.Packet{}, n.Cut(c.a, c.b, c.what == "cut")
}

func packet(from, to, word int) api.Packet { return api.Packet{From: from, To: to, Word: word} }

// look holds All against what is asked for.
func look(t *testing.T, n *Net, want ...api.Packet) {
	t.Helper()
	if got := n.All(); !slices.Equal(got, want) {
		t.Fatalf("All = %v, want %v", got, want)
	}
}

// does asks for what nothing is wrong with.
func does(t *testing.T, n *Net, calls ...call) {
	t.Helper()
	for _, c := range calls {
		if _, err := asked(n, c); err != nil {
			t.Fatalf("%v told %v, want nothing", c, err)
		}
	}
}

// comes lets the i-th come.
func comes(t *testing.T, n *Net, i int, want api.Packet) {
	t.Helper()
	if got, err := n.Give(i); got != want || err != nil {
		t.Fatalf("Give(%d) = %v, %v, want %v", i, got, err, want)
	}
}

// refuses asks for what is told to be wrong, by which nothing that is on its way changes.
func refuses(t *testing.T, n *Net, want api.Errno, calls ...call) {
	t.Helper()
	for _, c := range calls {
		all := n.All()
		if got, err := asked(n, c); plain.Told(err) != want || got != (api.Packet{}) {
			t.Fatalf("%v = %v, %v, want nothing, %v", c, got, err, want)
		}
		look(t, n, all...)
	}
}

// pairs are any two members, told both ways round.
func pairs() [][2]int {
	var l [][2]int
	for a := range api.Members {
		for b := range api.Members {
			if a != b {
				l = append(l, [2]int{a, b})
			}
		}
	}
	return l
}

// areCut holds which ways are cut against those asked for, each told once. What was on its way is
// lost by that.
func areCut(t *testing.T, n *Net, want ...[2]int) {
	t.Helper()
	for len(n.All()) > 0 {
		does(t, n, drop(0))
	}
	for _, p := range pairs() {
		does(t, n, send(p[0], p[1], 1))
		if slices.Contains(want, p) || slices.Contains(want, [2]int{p[1], p[0]}) {
			refuses(t, n, api.ErrState, give(0))
			does(t, n, drop(0))
		} else {
			comes(t, n, 0, packet(p[0], p[1], 1))
		}
		look(t, n)
	}
}

// three has three packets on as many ways; full has MaxOnWay on all ways, all in another order
// than that of their words.
func three(t *testing.T) *Net {
	t.Helper()
	n := New()
	does(t, n, send(3, 1, 20), send(0, 4, 30), send(1, 3, 10))
	return n
}

func full(t *testing.T) *Net {
	t.Helper()
	n := New()
	for _, p := range filling() {
		does(t, n, send(p.From, p.To, p.Word))
	}
	return n
}

func filling() []api.Packet {
	var l []api.Packet
	for i := range api.MaxOnWay {
		p := pairs()[i%len(pairs())]
		l = append(l, packet(p[0], p[1], 7*i%api.MaxWords+1))
	}
	return l
}

// strangers are members that there are not; noWords are words that there are not.
func strangers() []int {
	return []int{math.MinInt, math.MinInt32, -api.Members, -1, api.Members, api.Members + 1, math.MaxInt32, math.MaxInt}
}

func noWords() []int {
	return []int{math.MinInt, -api.MaxWords, -1, 0, api.MaxWords + 1, math.MaxInt}
}

// noPlaces are where nothing stands, of so many: the first place too, of none.
func noPlaces(of int) []int {
	return []int{math.MinInt, math.MinInt32, -of, -1, of, of + 1, api.MaxOnWay, math.MaxInt32, math.MaxInt}
}

func TestNewHasNothing(t *testing.T) {
	look(t, New())
	for _, i := range noPlaces(0) {
		refuses(t, New(), api.ErrRange, give(i), drop(i), twice(i))
	}
	areCut(t, New())
}

func TestSend(t *testing.T) {
	for _, p := range pairs() {
		for _, word := range []int{1, 2, api.MaxWords - 1, api.MaxWords} {
			n := New()
			does(t, n, send(p[0], p[1], word))
			look(t, n, packet(p[0], p[1], word))
		}
	}
}

func TestInTheOrderInWhichTheyWereSent(t *testing.T) {
	n := New()
	var want []api.Packet
	for _, p := range filling() {
		does(t, n, send(p.From, p.To, p.Word))
		want = append(want, p)
		look(t, n, want...)
	}
}

func TestAlikeAreEachForItself(t *testing.T) {
	n := New()
	like := packet(2, 0, 5)
	does(t, n, send(2, 0, 5), send(2, 0, 5), send(2, 0, 5))
	look(t, n, like, like, like)
	comes(t, n, 1, like)
	does(t, n, drop(1))
	look(t, n, like)
	comes(t, n, 0, like)
	refuses(t, n, api.ErrRange, give(0), drop(0), twice(0))
}

func TestFirstBetweenLast(t *testing.T) {
	a, b, c := packet(3, 1, 20), packet(0, 4, 30), packet(1, 3, 10)
	for i, left := range [][]api.Packet{{b, c}, {a, c}, {a, b}} {
		one := []api.Packet{a, b, c}[i]

		n := three(t)
		comes(t, n, i, one)
		look(t, n, left...)
		refuses(t, n, api.ErrRange, give(2), drop(2), twice(2))

		n = three(t)
		does(t, n, drop(i))
		look(t, n, left...)
		refuses(t, n, api.ErrRange, give(2), drop(2), twice(2))

		n = three(t)
		does(t, n, twice(i))
		look(t, n, a, b, c, one)
		comes(t, n, 3, one)
		look(t, n, a, b, c)
	}
}

func TestSentBehindDoubled(t *testing.T) {
	a, b, c := packet(3, 1, 20), packet(0, 4, 30), packet(1, 3, 10)
	n := three(t)
	does(t, n, twice(0), send(4, 2, 1), twice(3), twice(4))
	look(t, n, a, b, c, a, packet(4, 2, 1), a, packet(4, 2, 1))
	comes(t, n, 0, a)
	does(t, n, drop(2))
	look(t, n, b, c, packet(4, 2, 1), a, packet(4, 2, 1))
	does(t, n, send(2, 4, 9))
	look(t, n, b, c, packet(4, 2, 1), a, packet(4, 2, 1), packet(2, 4, 9))
}

func TestAllCome(t *testing.T) {
	n := full(t)
	for _, p := range filling() {
		comes(t, n, 0, p)
	}
	look(t, n)
	n = full(t)
	for i, p := range slices.Backward(filling()) {
		comes(t, n, i, p)
		look(t, n, filling()[:i]...)
	}
	does(t, n, send(1, 0, 3))
	look(t, n, packet(1, 0, 3))
}

func TestFull(t *testing.T) {
	const last = api.MaxOnWay - 1
	more := packet(2, 3, 29)
	all := filling()
	for _, i := range []int{0, 1, 17, last - 1, last} {
		rest := slices.Delete(filling(), i, i+1)
		other := (i + 3) % last
		for _, ends := range []call{give(i), drop(i)} {
			for _, again := range []call{send(2, 3, 29), twice(other)} {
				n := full(t)
				refuses(t, n, api.ErrFull, send(2, 3, 29), twice(0), twice(i), twice(last))
				look(t, n, all...)
				does(t, n, ends)
				look(t, n, rest...)
				does(t, n, again)
				if again.what == "send" {
					look(t, n, append(rest[:last:last], more)...)
				} else {
					look(t, n, append(rest[:last:last], rest[other])...)
				}
				refuses(t, n, api.ErrFull, send(2, 3, 29), twice(0), twice(i), twice(last))
			}
		}
	}
}

func TestFullByDoubling(t *testing.T) {
	n := New()
	does(t, n, send(1, 2, 3))
	for range api.MaxOnWay - 1 {
		does(t, n, twice(0))
	}
	look(t, n, slices.Repeat([]api.Packet{packet(1, 2, 3)}, api.MaxOnWay)...)
	refuses(t, n, api.ErrFull, twice(0), twice(api.MaxOnWay-1), send(1, 2, 3), send(2, 1, 4))
}

func TestFullAndCut(t *testing.T) {
	n := full(t)
	for _, p := range pairs() {
		does(t, n, cut(p[0], p[1]))
	}
	for i := range api.MaxOnWay {
		refuses(t, n, api.ErrState, give(i))
	}
	// What is stopped takes its room.
	refuses(t, n, api.ErrFull, send(0, 1, 1), twice(0))
	look(t, n, filling()...)
	areCut(t, n, pairs()...)
}

func TestCutBothWays(t *testing.T) {
	for _, told := range pairs() {
		for _, again := range [][2]int{told, {told[1], told[0]}} {
			n := New()
			does(t, n, cut(told[0], told[1]))
			areCut(t, n, told)
			does(t, n, heal(again[0], again[1]))
			areCut(t, n)
		}
	}
}

func TestCutTwiceIsCutOnce(t *testing.T) {
	for _, again := range []call{cut(1, 4), cut(4, 1)} {
		n := New()
		does(t, n, cut(1, 4), again)
		areCut(t, n, [2]int{1, 4})
		does(t, n, heal(4, 1))
		areCut(t, n)
		does(t, n, again)
		areCut(t, n, [2]int{1, 4})
	}
}

func TestNeverCutAndCutNoMore(t *testing.T) {
	n := New()
	does(t, n, heal(2, 3), heal(3, 2), heal(0, 4))
	areCut(t, n)
	does(t, n, cut(2, 3))
	areCut(t, n, [2]int{2, 3})
	does(t, n, heal(0, 4), heal(2, 4), heal(0, 3))
	areCut(t, n, [2]int{2, 3})
}

func TestSeveralWaysCut(t *testing.T) {
	n := New()
	does(t, n, cut(0, 1), cut(4, 2), cut(3, 1))
	areCut(t, n, [2]int{0, 1}, [2]int{2, 4}, [2]int{1, 3})
	does(t, n, heal(2, 4))
	areCut(t, n, [2]int{0, 1}, [2]int{1, 3})
	does(t, n, heal(0, 1), cut(0, 4))
	areCut(t, n, [2]int{1, 3}, [2]int{0, 4})
}

func TestCutWhileOnIt(t *testing.T) {
	a, b, c := packet(3, 1, 20), packet(0, 4, 30), packet(1, 3, 10)
	n := three(t)
	does(t, n, cut(1, 3))
	look(t, n, a, b, c)
	refuses(t, n, api.ErrState, give(0), give(2), give(0))
	comes(t, n, 1, b)
	refuses(t, n, api.ErrState, give(0), give(1))
	// A way that is cut stops what comes, not what is sent.
	does(t, n, send(3, 1, 7), send(4, 0, 8))
	look(t, n, a, c, packet(3, 1, 7), packet(4, 0, 8))
	refuses(t, n, api.ErrState, give(2))
	comes(t, n, 3, packet(4, 0, 8))
	does(t, n, heal(3, 1))
	look(t, n, a, c, packet(3, 1, 7))
	comes(t, n, 1, c)
	comes(t, n, 0, a)
	comes(t, n, 0, packet(3, 1, 7))
	look(t, n)
}

func TestDropAndTwiceOnACutWay(t *testing.T) {
	a, b, c := packet(3, 1, 20), packet(0, 4, 30), packet(1, 3, 10)
	n := three(t)
	does(t, n, cut(3, 1), twice(2), twice(0))
	look(t, n, a, b, c, c, a)
	refuses(t, n, api.ErrState, give(0), give(2), give(3), give(4))
	does(t, n, drop(0), drop(1))
	look(t, n, b, c, a)
	refuses(t, n, api.ErrState, give(1), give(2))
	does(t, n, heal(3, 1))
	comes(t, n, 2, a)
	comes(t, n, 1, c)
	look(t, n, b)
}

func TestSendOutOfRange(t *testing.T) {
	// Those that are the same, and what is full, are told of only where every number may be.
	for _, n := range []*Net{New(), three(t), full(t)} {
		for _, word := range append(noWords(), 1, api.MaxWords) {
			for _, stranger := range strangers() {
				for _, other := range append(strangers(), 0, 2, api.Members-1) {
					refuses(t, n, api.ErrRange, send(stranger, other, word), send(other, stranger, word))
				}
			}
		}
		for _, word := range noWords() {
			for from := range api.Members {
				for to := range api.Members {
					refuses(t, n, api.ErrRange, send(from, to, word))
				}
			}
		}
	}
}

func TestSendToItself(t *testing.T) {
	for _, n := range []*Net{New(), three(t), full(t)} {
		for who := range api.Members {
			refuses(t, n, api.ErrShape, send(who, who, 1), send(who, who, api.MaxWords))
		}
	}
}

func TestNoSuchPlace(t *testing.T) {
	for _, n := range []*Net{New(), three(t), full(t)} {
		for range 2 {
			for _, i := range noPlaces(len(n.All())) {
				refuses(t, n, api.ErrRange, give(i), drop(i), twice(i))
			}
			// That there is none is told ahead of what is cut.
			for _, p := range pairs() {
				does(t, n, cut(p[0], p[1]))
			}
		}
	}
}

func TestCutRefused(t *testing.T) {
	n := New()
	does(t, n, cut(0, 4))
	for range 2 {
		for _, stranger := range strangers() {
			for _, other := range append(strangers(), 0, 1, 2, 3, 4) {
				refuses(t, n, api.ErrRange, cut(stranger, other), cut(other, stranger), heal(stranger, other), heal(other, stranger))
			}
		}
		for who := range api.Members {
			refuses(t, n, api.ErrShape, cut(who, who), heal(who, who))
		}
		areCut(t, n, [2]int{0, 4})
		for _, p := range filling() {
			does(t, n, send(p.From, p.To, p.Word))
		}
	}
}

func TestRefusedChangesNothing(t *testing.T) {
	n, same := full(t), full(t)
	does(t, n, cut(0, 1))
	does(t, same, cut(0, 1))
	refuses(t, n, api.ErrRange, send(-1, 0, 1), send(0, 5, 1), send(0, 1, 31), give(40), drop(40), twice(40), give(-1), drop(-1), twice(-1))
	refuses(t, n, api.ErrRange, cut(1, 5), heal(-1, 0), cut(5, 5))
	refuses(t, n, api.ErrShape, send(1, 1, 1), cut(1, 1), heal(0, 0))
	refuses(t, n, api.ErrFull, send(0, 1, 1), twice(0))
	refuses(t, n, api.ErrState, give(0))
	// Whatever is asked now, both answer alike.
	for _, c := range []call{give(3), drop(0), twice(5), send(4, 3, 2), send(4, 3, 2), heal(0, 1), give(38), give(38), twice(0)} {
		got, err := asked(n, c)
		want, wantErr := asked(same, c)
		if got != want || plain.Told(err) != plain.Told(wantErr) {
			t.Fatalf("%v = %v, %v, want %v, %v", c, got, err, want, wantErr)
		}
		look(t, n, same.All()...)
	}
	areCut(t, n)
}

func TestPacketIsNotKept(t *testing.T) {
	n := New()
	mine := []api.Packet{packet(0, 1, 2), packet(3, 4, 5)}
	for at := range mine {
		if err := n.Send(mine[at]); err != nil {
			t.Fatal(err)
		}
	}
	if !slices.Equal(mine, []api.Packet{packet(0, 1, 2), packet(3, 4, 5)}) {
		t.Fatalf("the packets that were sent became %v", mine)
	}
	clear(mine)
	look(t, n, packet(0, 1, 2), packet(3, 4, 5))
}

func TestListsAreTheCallers(t *testing.T) {
	n := New()
	var lists [][]api.Packet
	keep := func() {
		all := n.All()
		lists = append(lists, all[:cap(all)])
	}
	for _, c := range []call{send(0, 1, 1), send(1, 2, 2), send(2, 3, 3), twice(0), give(1), twice(2), drop(0), send(3, 4, 4), give(3)} {
		keep()
		does(t, n, c)
		keep()
		keep()
	}
	for i, l := range lists {
		for at := range l {
			l[at] = packet(-1-i, -1-i, -1-i)
		}
	}
	for i, l := range lists {
		if slices.ContainsFunc(l, func(p api.Packet) bool { return p.From != -1-i }) {
			t.Errorf("list %d shares memory with another one: %v", i, l)
		}
	}
	look(t, n, packet(2, 3, 3), packet(0, 1, 1), packet(0, 1, 1))
	does(t, n, send(4, 0, 5), twice(0))
	look(t, n, packet(2, 3, 3), packet(0, 1, 1), packet(0, 1, 1), packet(4, 0, 5), packet(2, 3, 3))
}

func TestListsStayAsTheyWere(t *testing.T) {
	n := three(t)
	was := n.All()
	copied := slices.Clone(was)
	does(t, n, drop(0), send(4, 0, 5), twice(1), give(0), cut(1, 3), drop(0), drop(0), drop(0))
	look(t, n)
	if !slices.Equal(was, copied) {
		t.Errorf("a list that All gave became %v, was %v", was, copied)
	}
}

func TestEachForItself(t *testing.T) {
	one, other := three(t), New()
	does(t, one, cut(0, 1))
	look(t, other)
	does(t, other, send(0, 1, 6))
	look(t, one, packet(3, 1, 20), packet(0, 4, 30), packet(1, 3, 10))
	comes(t, other, 0, packet(0, 1, 6))
	areCut(t, other)
	areCut(t, one, [2]int{0, 1})
}

// told is N1 told in another way: all that ever was sent, which of it is there no more, and all
// that was said of ways, of which the last counts.
type told struct {
	sent []api.Packet
	gone []bool
	ways []call
}

// there are the places, among all that ever was sent, of what is on its way.
func (m *told) there() []int {
	var l []int
	for at, gone := range m.gone {
		if !gone {
			l = append(l, at)
		}
	}
	return l
}

func (m *told) all() []api.Packet {
	var l []api.Packet
	for _, at := range m.there() {
		l = append(l, m.sent[at])
	}
	return l
}

func (m *told) isCut(p api.Packet) bool {
	for _, c := range slices.Backward(m.ways) {
		if c.a == p.From && c.b == p.To || c.a == p.To && c.b == p.From {
			return c.what == "cut"
		}
	}
	return false
}

func (m *told) add(p api.Packet) api.Errno {
	if len(m.there()) == api.MaxOnWay {
		return api.ErrFull
	}
	m.sent, m.gone = append(m.sent, p), append(m.gone, false)
	return api.OK
}

// faultOfTwo tells what is wrong with two members and a word.
func faultOfTwo(a, b, word int) api.Errno {
	for _, who := range []int{a, b} {
		if slices.Index([]int{0, 1, 2, 3, 4}, who) < 0 {
			return api.ErrRange
		}
	}
	if word < 1 || word > 30 {
		return api.ErrRange
	}
	if a == b {
		return api.ErrShape
	}
	return api.OK
}

func (m *told) ask(c call) (api.Packet, api.Errno) {
	var none api.Packet
	switch c.what {
	case "send":
		if e := faultOfTwo(c.a, c.b, c.c); e != api.OK {
			return none, e
		}
		return none, m.add(packet(c.a, c.b, c.c))
	case "cut", "heal":
		e := faultOfTwo(c.a, c.b, 1)
		if e == api.OK {
			m.ways = append(m.ways, c)
		}
		return none, e
	}
	there := m.there()
	if c.a < 0 || c.a >= len(there) {
		return none, api.ErrRange
	}
	at := there[c.a]
	p := m.sent[at]
	if c.what == "twice" {
		return none, m.add(p)
	}
	if c.what == "give" && m.isCut(p) {
		return none, api.ErrState
	}
	m.gone[at] = true
	if c.what == "drop" {
		return none, api.OK
	}
	return p, api.OK
}

// hold asks a new one for a row of things, and holds each answer against told.
func hold(t *testing.T, row []call) {
	t.Helper()
	n, m := New(), &told{}
	for _, c := range row {
		want, errno := m.ask(c)
		got, err := asked(n, c)
		if got != want || plain.Told(err) != errno {
			t.Fatalf("of %v: %v = %v, %v, want %v, %v", row, c, got, err, want, errno)
		}
		if !slices.Equal(n.All(), m.all()) {
			t.Fatalf("of %v: behind %v: All %v, want %v", row, c, n.All(), m.all())
		}
	}
}

func TestEveryShortRow(t *testing.T) {
	kinds := []call{
		send(0, 1, 0), send(1, 0, 0), send(1, 2, 0),
		give(0), give(1), drop(0), drop(1), twice(0), twice(1),
		cut(0, 1), cut(2, 1), heal(1, 0),
	}
	var grow func(row []call)
	grow = func(row []call) {
		if len(row) == 5 {
			hold(t, row)
			return
		}
		for _, k := range kinds {
			if k.what == "send" {
				k.c = len(row) + 1
			}
			grow(append(slices.Clone(row), k))
		}
	}
	grow(nil)
}

// dice are numbers that look thrown, and are the same each time.
type dice uint64

func (d *dice) below(n int) int {
	*d = *d*6364136223846793005 + 1442695040888963407
	return int(uint64(*d>>33) % uint64(n))
}

// throw makes something to ask, of so many members; the more sends there are, the fuller it gets.
func (d *dice) throw(members, sends int) call {
	a, b, word := d.below(members), d.below(members), d.below(api.MaxWords)+1
	if d.below(25) == 0 {
		odd := []int{math.MinInt, -1, api.Members, api.MaxWords + 1, api.MaxOnWay, math.MaxInt}
		a, b, word = odd[d.below(len(odd))], []int{a, b}[d.below(2)], odd[d.below(len(odd))]
	}
	kinds := []call{give(d.below(api.MaxOnWay + 1)), give(a), drop(d.below(api.MaxOnWay + 1)), drop(a), twice(d.below(api.MaxOnWay + 1)), twice(a), cut(a, b), heal(b, a), heal(a, b)}
	if i := d.below(len(kinds) + sends); i < len(kinds) {
		return kinds[i]
	}
	return send(a, b, word)
}

func TestLongRows(t *testing.T) {
	d := dice(7)
	for range 400 {
		members, sends := d.below(api.Members-1)+2, d.below(15)+1
		var row []call
		for range 150 {
			row = append(row, d.throw(members, sends))
		}
		hold(t, row)
	}
}
