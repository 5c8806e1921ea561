package log

import (
	"math"
	"slices"
	"testing"

	"mootbell/api"
	"mootbell/faces"
	"mootbell/history"
	"mootbell/plain"
)

func think(who int) api.Event      { return api.Event{Who: who, What: api.Think} }
func say(who, word int) api.Event  { return api.Event{Who: who, What: api.Say, Word: word} }
func hear(who, word int) api.Event { return api.Event{Who: who, What: api.Hear, Word: word} }

// does hands in events one by one, each of which is to be told this.
func does(t *testing.T, l *Log, want api.Errno, events ...api.Event) {
	t.Helper()
	for _, e := range events {
		if err := l.Do(e); plain.Told(err) != want {
			t.Fatalf("Do(%v) = %v, want %v", e, err, want)
		}
	}
}

func syncs(t *testing.T, l *Log, want api.Errno) {
	t.Helper()
	if err := l.Sync(); plain.Told(err) != want {
		t.Fatalf("Sync() = %v, want %v", err, want)
	}
}

// has asks that there are so many bytes, so many of them safe, and just this history with its faces.
func has(t *testing.T, l *Log, bytes, safe int, h ...api.Event) {
	t.Helper()
	if all := l.All(); !slices.Equal(all, h) {
		t.Fatalf("All() = %v, want %v", all, h)
	}
	if l.Bytes() != bytes || l.Safe() != safe {
		t.Fatalf("%d bytes, %d safe, want %d and %d", l.Bytes(), l.Safe(), bytes, safe)
	}
	want, err := faces.Of(h)
	if err != nil {
		t.Fatalf("Of(%v): %v", h, err)
	}
	if f, err := l.Faces(); f != want || err != nil {
		t.Fatalf("Faces() = %v, %v, want %v, of %v", f, err, want, h)
	}
}

// hasAll asks that there are these and nothing else, so many of them safe.
func hasAll(t *testing.T, l *Log, safe int, h ...api.Event) {
	t.Helper()
	has(t, l, record*len(h), record*safe, h...)
}

// made is a Log with events, of which the first ones are safe.
func made(t *testing.T, safe int, h ...api.Event) *Log {
	t.Helper()
	l := New()
	does(t, l, api.OK, h[:safe]...)
	if safe > 0 {
		syncs(t, l, api.OK)
	}
	does(t, l, api.OK, h[safe:]...)
	hasAll(t, l, safe, h...)
	return l
}

// many events, one of each kind behind the other.
func many(n int) []api.Event {
	var h []api.Event
	for word := 1; len(h) < n; word++ {
		h = append(h, say(word%5, word), hear((word+1)%5, word), think(word%5))
	}
	return h[:n]
}

func TestNew(t *testing.T) {
	hasAll(t, New(), 0)
	if f, err := New().Faces(); f != (api.Faces{Fifo: true, Causal: true, Total: true}) || err != nil {
		t.Errorf("Faces() = %v, %v, of nothing", f, err)
	}
}

func TestARecordIsOfAtLeastTwoBytes(t *testing.T) {
	l := New()
	for i, e := range many(60) {
		was := l.Bytes()
		does(t, l, api.OK, e)
		if l.Bytes() < was+2 {
			t.Fatalf("the record of %v, at %d, is of %d bytes", e, i, l.Bytes()-was)
		}
	}
}

// Each kind, each member and each word, read from the bytes also behind a Crash.
func TestDo(t *testing.T) {
	for who := range 5 {
		for word := 1; word <= 30; word++ {
			other := (who + word%4 + 1) % 5
			h := []api.Event{say(who, word), hear(other, word), think(other), think(who)}
			l := made(t, 0, h...)
			syncs(t, l, api.OK)
			hasAll(t, l, 4, h...)
			l.Crash(0)
			hasAll(t, l, 4, h...)
			for n := range 4 {
				l = made(t, 0, h...)
				l.Crash(record * n)
				hasAll(t, l, n, h[:n]...)
			}
		}
	}
}

// wrong events behind some, and what Check tells of them.
type wrong struct {
	errno api.Errno
	e     api.Event
}

func wrongs() []wrong {
	l := []wrong{
		{api.ErrClash, say(0, 7)},  // who said it
		{api.ErrClash, say(3, 7)},  // another one
		{api.ErrClash, hear(1, 7)}, // it was heard
		{api.ErrNone, hear(1, 8)},
		{api.ErrNone, hear(0, 30)},
		{api.ErrShape, hear(0, 7)},
	}
	for _, who := range []int{math.MinInt, -256, -1, 5, 6, 256, 257, 1 << 32, math.MaxInt} {
		l = append(l, wrong{api.ErrRange, think(who)}, wrong{api.ErrRange, say(who, 9)}, wrong{api.ErrRange, hear(who, 7)})
	}
	for _, what := range []int{math.MinInt, -255, -1, 0, 4, 256, 257, 258, 259, math.MaxInt} {
		l = append(l, wrong{api.ErrRange, api.Event{Who: 2, What: what, Word: 9}}, wrong{api.ErrRange, api.Event{Who: 2, What: what}})
	}
	for _, word := range []int{math.MinInt, -249, -1, 31, 256, 263, 265, 1<<32 + 9, math.MaxInt} {
		l = append(l, wrong{api.ErrRange, say(2, word)}, wrong{api.ErrRange, hear(2, word)})
		l = append(l, wrong{api.ErrRange, api.Event{Who: 2, What: api.Think, Word: word}})
	}
	return append(l, wrong{api.ErrRange, say(2, 0)}, wrong{api.ErrRange, hear(2, 0)}, wrong{api.ErrRange, api.Event{Who: 2, What: api.Think, Word: 1}})
}

// Of an Event that is wrong no byte is there, and no step is taken.
func TestDoRefuses(t *testing.T) {
	h := []api.Event{say(0, 7), hear(1, 7)}
	for _, w := range wrongs() {
		if _, err := history.Check(append(slices.Clone(h), w.e)); plain.Told(err) != w.errno {
			t.Fatalf("Check tells %v of %v, not %v", err, w.e, w.errno)
		}
		l := made(t, 1, h...)
		does(t, l, w.errno, w.e)
		hasAll(t, l, 1, h...)
		does(t, l, api.OK, think(4))
		hasAll(t, l, 1, append(slices.Clone(h), think(4))...)

		l = made(t, 1, h...)
		l.Fail(1)
		does(t, l, w.errno, w.e, w.e, w.e)
		does(t, l, api.OK, think(4))
		does(t, l, w.errno, w.e)
		hasAll(t, l, 1, append(slices.Clone(h), think(4))...)
		does(t, l, api.ErrState, think(4), w.e)
		has(t, l, 3*record+record/2, record, append(slices.Clone(h), think(4))...)
	}
}

func TestAsManyAsMayBe(t *testing.T) {
	h := many(60)
	l := made(t, 30, h...)
	l.Fail(0)
	// One more is told ahead of what else is wrong with it.
	does(t, l, api.ErrFull, think(0), say(0, 25), say(0, 1), hear(3, 29), think(5), api.Event{}, say(math.MinInt, 31))
	hasAll(t, l, 30, h...)
	syncs(t, l, api.ErrState)
	does(t, l, api.ErrState, think(0), think(5))
	hasAll(t, l, 30, h...)
	l.Crash(math.MaxInt)
	hasAll(t, l, 60, h...)
	does(t, l, api.ErrFull, think(0))

	l = made(t, 30, h...)
	l.Crash(29*record + record - 1)
	hasAll(t, l, 59, h[:59]...)
	does(t, l, api.OK, think(4))
	does(t, l, api.ErrFull, think(4))
	hasAll(t, l, 59, append(slices.Clone(h[:59]), think(4))...)

	// The last one that may be, half there.
	l = made(t, 0, h[:59]...)
	l.Fail(0)
	does(t, l, api.ErrState, h[59])
	has(t, l, 59*record+record/2, 0, h[:59]...)
	l.Crash(math.MaxInt)
	hasAll(t, l, 59, h[:59]...)
	does(t, l, api.OK, h[59])
	hasAll(t, l, 59, h...)
}

func TestSync(t *testing.T) {
	l := New()
	syncs(t, l, api.OK)
	hasAll(t, l, 0)
	does(t, l, api.OK, say(0, 1))
	hasAll(t, l, 0, say(0, 1))
	syncs(t, l, api.OK)
	hasAll(t, l, 1, say(0, 1))
	syncs(t, l, api.OK)
	hasAll(t, l, 1, say(0, 1))
	does(t, l, api.OK, think(0), hear(2, 1))
	hasAll(t, l, 1, say(0, 1), think(0), hear(2, 1))
	syncs(t, l, api.OK)
	hasAll(t, l, 3, say(0, 1), think(0), hear(2, 1))
}

func TestFaces(t *testing.T) {
	h := []api.Event{say(0, 1), say(0, 2), hear(1, 2), hear(2, 2), hear(2, 1), hear(1, 1), say(3, 4)}
	for n, want := range []api.Faces{
		{Fifo: true, Causal: true, Total: true},
		{Fifo: true, Causal: true, Total: true},
		{Fifo: true, Causal: true, Total: true},
		{Total: true}, // 2 was heard, and 1 was not
		{Total: true},
		{}, // unlike who said them
		{},
		{},
	} {
		l := made(t, 0, h...)
		l.Crash(record * n)
		if f, err := l.Faces(); f != want || err != nil {
			t.Errorf("Faces() = %v, %v, want %v, of %v", f, err, want, h[:n])
		}
	}
}

// steps of which none is the one at which it stops: each is a Do, or a Sync.
func steps(t *testing.T, l *Log, row string, h []api.Event) (done, safe int) {
	t.Helper()
	for _, what := range row {
		if what == 's' {
			syncs(t, l, api.OK)
			safe = done
			continue
		}
		does(t, l, api.OK, h[done])
		done++
	}
	return done, safe
}

// It stops at each step, whatever steps are ahead of it, and not one step ahead.
func TestFail(t *testing.T) {
	h := many(20)
	for _, row := range []string{"", "d", "s", "dd", "ds", "sd", "ss", "ddd", "dsd", "sds", "dddsddds", "ssssssss", "dsdsdsdsdsdsd"} {
		l := New()
		l.Fail(len(row))
		done, safe := steps(t, l, row, h)
		hasAll(t, l, safe, h[:done]...)
		does(t, l, api.ErrState, h[done])
		has(t, l, record*done+record/2, record*safe, h[:done]...)
		does(t, l, api.ErrState, h[done], think(0), think(5), api.Event{})
		syncs(t, l, api.ErrState)
		has(t, l, record*done+record/2, record*safe, h[:done]...)

		l = New()
		l.Fail(len(row))
		done, safe = steps(t, l, row, h)
		syncs(t, l, api.ErrState)
		hasAll(t, l, safe, h[:done]...)
		syncs(t, l, api.ErrState)
		does(t, l, api.ErrState, h[done], think(0), think(5), api.Event{})
		hasAll(t, l, safe, h[:done]...)
	}
}

// What is asked, and what a Crash and a Fail are, is no step.
func TestNoStep(t *testing.T) {
	l := made(t, 1, say(0, 1), think(2))
	l.Fail(1)
	for range 5 {
		hasAll(t, l, 1, say(0, 1), think(2))
		does(t, l, api.ErrClash, say(0, 1))
		does(t, l, api.ErrRange, think(5))
	}
	does(t, l, api.OK, think(3))
	hasAll(t, l, 1, say(0, 1), think(2), think(3))
	syncs(t, l, api.ErrState)
	hasAll(t, l, 1, say(0, 1), think(2), think(3))
}

// A Fail takes the place of the one ahead, also where some of its steps were taken.
func TestFailAnew(t *testing.T) {
	for _, first := range []int{-1, 0, 1, 2, 3, 7, math.MaxInt} {
		for _, then := range []int{0, 1, 2, 5} {
			for taken := range 6 {
				if first >= 0 && taken > first {
					continue
				}
				l, h := New(), many(20)
				l.Fail(first)
				done, _ := steps(t, l, "dddddddddddd"[:taken], h)
				l.Fail(then)
				more, _ := steps(t, l, "dddddddddddd"[:then], h[done:])
				hasAll(t, l, 0, h[:done+more]...)
				does(t, l, api.ErrState, h[done+more])
				has(t, l, record*(done+more)+record/2, 0, h[:done+more]...)
			}
		}
	}
}

// Below 0 it never stops, and what was said ahead is taken away.
func TestNever(t *testing.T) {
	for _, below := range []int{-1, -2, -60, math.MinInt32, math.MinInt + 1, math.MinInt} {
		for _, first := range []int{0, 1, 3, -1} {
			l, h := New(), many(60)
			l.Fail(first)
			done := max(first, 0)
			does(t, l, api.OK, h[:done]...)
			l.Fail(below)
			does(t, l, api.OK, h[done:]...)
			for range 1_000 {
				syncs(t, l, api.OK)
			}
			hasAll(t, l, 60, h...)
		}
	}
}

func TestFailFarOff(t *testing.T) {
	for _, n := range []int{1_000, 1_000_000, math.MaxInt32, math.MaxInt - 1, math.MaxInt} {
		l, h := New(), many(60)
		l.Fail(n)
		does(t, l, api.OK, h...)
		for range 940 {
			syncs(t, l, api.OK)
		}
		hasAll(t, l, 60, h...)
		want := api.OK
		if n == 1_000 {
			want = api.ErrState
		}
		syncs(t, l, want)
		hasAll(t, l, 60, h...)
	}
}

// One that has stopped goes on by a Crash alone.
func TestFailOfOneThatHasStopped(t *testing.T) {
	for _, n := range []int{math.MinInt, -1, 0, 1, 2, math.MaxInt} {
		l := made(t, 1, say(0, 1), think(1))
		l.Fail(0)
		does(t, l, api.ErrState, think(2))
		l.Fail(n)
		does(t, l, api.ErrState, think(2), think(5))
		syncs(t, l, api.ErrState)
		has(t, l, 2*record+record/2, record, say(0, 1), think(1))
		l.Crash(record)
		hasAll(t, l, 2, say(0, 1), think(1))
		does(t, l, api.OK, think(2), think(3))
		syncs(t, l, api.OK)
		hasAll(t, l, 4, say(0, 1), think(1), think(2), think(3))
	}
}

// keeps are edges of how many bytes are kept: about each place, and far off.
func keeps(unsafe int) []int {
	l := []int{math.MinInt, math.MinInt + 1, math.MinInt32, -record, -2, -1}
	for n := range unsafe + 2*record {
		l = append(l, n)
	}
	return append(l, 1_000, 1_000_000, math.MaxInt32, math.MaxInt-1, math.MaxInt)
}

// A Crash of one that has not stopped, and of one that stopped at a Sync, at each keep.
func TestCrash(t *testing.T) {
	h := many(6)
	for safe := range 5 {
		for unsafe := range len(h) - safe {
			for _, keep := range keeps(record * unsafe) {
				for _, stops := range []bool{false, true} {
					l := made(t, safe, h[:safe+unsafe]...)
					if stops {
						l.Fail(0)
						syncs(t, l, api.ErrState)
					}
					l.Crash(keep)
					left := safe + min(max(keep, 0)/record, unsafe)
					hasAll(t, l, left, h[:left]...)
					l.Crash(keep)
					hasAll(t, l, left, h[:left]...)
					does(t, l, api.OK, h[left:]...)
					hasAll(t, l, left, h...)
					syncs(t, l, api.OK)
					hasAll(t, l, 6, h...)
				}
			}
		}
	}
}

// What is half there is gone, however much is kept.
func TestCrashOfHalf(t *testing.T) {
	h := many(7)
	for safe := range 5 {
		for unsafe := range 6 - safe {
			for _, keep := range keeps(record*unsafe + record/2) {
				l := made(t, safe, h[:safe+unsafe]...)
				l.Fail(0)
				does(t, l, api.ErrState, h[safe+unsafe])
				has(t, l, record*(safe+unsafe)+record/2, record*safe, h[:safe+unsafe]...)
				l.Crash(keep)
				left := safe + min(max(keep, 0)/record, unsafe)
				hasAll(t, l, left, h[:left]...)
				does(t, l, api.OK, h[left:]...)
				hasAll(t, l, left, h...)
			}
		}
	}
}

func TestCrashOfANewOne(t *testing.T) {
	for _, keep := range keeps(0) {
		l := New()
		l.Crash(keep)
		hasAll(t, l, 0)
		l.Crash(keep)
		hasAll(t, l, 0)
		syncs(t, l, api.OK)
		does(t, l, api.OK, say(0, 1))
		hasAll(t, l, 0, say(0, 1))
	}
}

// One Crash behind another one, with nothing between: what is left by the first is safe from the second.
func TestCrashTwice(t *testing.T) {
	h := many(5)
	l := made(t, 2, h...)
	l.Crash(2*record + record/2)
	hasAll(t, l, 4, h[:4]...)
	l.Crash(0)
	hasAll(t, l, 4, h[:4]...)
	l.Crash(math.MinInt)
	hasAll(t, l, 4, h[:4]...)
	does(t, l, api.OK, h[4])
	hasAll(t, l, 4, h...)
	l.Crash(record - 1)
	hasAll(t, l, 4, h[:4]...)
}

// What Fail said is forgotten, whether it came to it or not.
func TestCrashForgetsFail(t *testing.T) {
	for _, n := range []int{0, 1, 2, 3, 10} {
		for taken := 0; taken <= n+1 && taken < 5; taken++ {
			l, h := New(), many(60)
			l.Fail(n)
			for i := range taken {
				want := api.OK
				if i == n {
					want = api.ErrState
				}
				does(t, l, want, h[i])
			}
			l.Crash(-1)
			hasAll(t, l, 0)
			does(t, l, api.OK, h...)
			for range 100 {
				syncs(t, l, api.OK)
			}
			hasAll(t, l, 60, h...)
		}
	}
}

// Behind a Crash the history is what the records left say: what was lost may be said again, and what it stood
// on is asked for anew.
func TestGoesOnWithWhatIsLeft(t *testing.T) {
	l := made(t, 1, say(0, 1), say(0, 2), hear(1, 2), hear(1, 1))
	l.Crash(2 * record)
	hasAll(t, l, 3, say(0, 1), say(0, 2), hear(1, 2))
	does(t, l, api.ErrClash, hear(1, 2), say(3, 2))
	does(t, l, api.OK, hear(1, 1))
	does(t, l, api.ErrClash, hear(1, 1))

	l = made(t, 1, say(0, 1), say(0, 2), hear(1, 2), hear(1, 1))
	l.Crash(record - 1)
	hasAll(t, l, 1, say(0, 1))
	does(t, l, api.ErrNone, hear(1, 2), hear(0, 2))
	does(t, l, api.ErrClash, say(0, 1))
	does(t, l, api.OK, say(1, 2))
	does(t, l, api.ErrShape, hear(1, 2))
	does(t, l, api.OK, hear(0, 2), hear(1, 1))
	hasAll(t, l, 1, say(0, 1), say(1, 2), hear(0, 2), hear(1, 1))
}

// A word at whose saying it stopped was not said.
func TestStoppedIsNotInTheHistory(t *testing.T) {
	l := made(t, 1, say(0, 1))
	l.Fail(0)
	does(t, l, api.ErrState, say(0, 2), hear(1, 2))
	has(t, l, record+record/2, record, say(0, 1))
	l.Crash(math.MaxInt)
	does(t, l, api.ErrNone, hear(1, 2))
	does(t, l, api.OK, say(3, 2), hear(1, 2))
	hasAll(t, l, 1, say(0, 1), say(3, 2), hear(1, 2))
}

// scrawl writes over a list, and over what lies behind it.
func scrawl(h []api.Event) {
	h = h[:cap(h)]
	for i := range h {
		h[i] = api.Event{Who: -1, What: -1, Word: -1}
	}
}

func TestWhatAllAnswersIsTheCallers(t *testing.T) {
	h := many(9)
	l := made(t, 4, h...)
	first, second := l.All(), l.All()
	scrawl(first)
	if !slices.Equal(second, h) {
		t.Fatalf("the second All() is %v behind writing over the first", second)
	}
	hasAll(t, l, 4, h...)
	does(t, l, api.OK, think(0))
	if !slices.Equal(second, h) {
		t.Fatalf("All() is %v behind a Do", second)
	}
	scrawl(second)
	l.Crash(record)
	hasAll(t, l, 5, h[:5]...)
	third := l.All()
	does(t, l, api.OK, think(1), think(2))
	l.Fail(0)
	does(t, l, api.ErrState, think(3))
	l.Crash(0)
	if !slices.Equal(third, h[:5]) {
		t.Fatalf("All() is %v behind a Crash", third)
	}
	if empty := New().All(); len(empty) != 0 {
		t.Fatalf("All() = %v, of nothing", empty)
	}
}

func TestTwoLogsKnowNothingOfEachOther(t *testing.T) {
	a, b := New(), New()
	a.Fail(1)
	does(t, a, api.OK, say(0, 1))
	does(t, b, api.ErrNone, hear(1, 1))
	does(t, b, api.OK, say(2, 1), hear(1, 1))
	syncs(t, b, api.OK)
	does(t, a, api.ErrState, think(0))
	does(t, b, api.OK, think(0))
	b.Crash(0)
	has(t, a, record+record/2, 0, say(0, 1))
	hasAll(t, b, 2, say(2, 1), hear(1, 1))
	b.Fail(2)
	a.Crash(record)
	does(t, b, api.OK, think(3), think(4))
	hasAll(t, a, 1, say(0, 1))
	does(t, b, api.ErrState, think(3))
	does(t, a, api.OK, think(0))
	syncs(t, a, api.OK)
	hasAll(t, a, 2, say(0, 1), think(0))
	has(t, b, 4*record+record/2, 2*record, say(2, 1), hear(1, 1), think(3), think(4))
}
