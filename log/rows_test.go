package log

import (
	"math"
	"slices"
	"testing"

	"mootbell/api"
	"mootbell/faces"
	"mootbell/history"
	"mootbell/plain"
)

// call is "do" an Event, "sync", "fail" in n steps, or "crash" with n bytes kept.
type call struct {
	what string
	e    api.Event
	n    int
}

func do(e api.Event) call { return call{what: "do", e: e} }
func fail(n int) call     { return call{what: "fail", n: n} }
func crash(keep int) call { return call{what: "crash", n: keep} }

func asked(l *Log, c call) api.Errno {
	switch c.what {
	case "do":
		return plain.Told(l.Do(c.e))
	case "sync":
		return plain.Told(l.Sync())
	case "fail":
		l.Fail(c.n)
	case "crash":
		l.Crash(c.n)
	}
	return api.OK
}

// toldLog is L1 and L2 in another way: by events instead of bytes, and by the number of the step at which it
// stops, counted from New on.
type toldLog struct {
	h      []api.Event
	safe   int // events
	taken  int // steps
	stopAt int // the step; -1: none
	half   int // bytes that are there of the record at which it stopped
	row    []call
}

func newTold() *toldLog { return &toldLog{stopAt: -1} }

// takeStep tells whether it stops.
func (m *toldLog) takeStep() bool {
	m.taken++
	return m.hasStopped()
}

func (m *toldLog) hasStopped() bool { return m.stopAt >= 0 && m.taken >= m.stopAt }

func (m *toldLog) do(c call) api.Errno {
	m.row = append(m.row, c)
	switch c.what {
	case "fail":
		m.fail(c.n)
		return api.OK
	case "crash":
		m.crash(c.n)
		return api.OK
	}
	if m.hasStopped() {
		return api.ErrState
	}
	if c.what == "sync" {
		if m.takeStep() {
			return api.ErrState
		}
		m.safe = len(m.h)
		return api.OK
	}
	longer := append(slices.Clone(m.h), c.e)
	if _, err := history.Check(longer); err != nil {
		return plain.Told(err)
	}
	if m.takeStep() {
		m.half = record / 2
		return api.ErrState
	}
	m.h = longer
	return api.OK
}

func (m *toldLog) fail(n int) {
	switch {
	case m.hasStopped():
	case n < 0:
		m.stopAt = -1
	case n > 1_000_000:
		m.stopAt = math.MaxInt
	default:
		m.stopAt = m.taken + n + 1
	}
}

func (m *toldLog) crash(keep int) {
	for keep >= record && m.safe < len(m.h) {
		m.safe++
		keep -= record
	}
	m.h = m.h[:m.safe]
	m.stopAt, m.half = -1, 0
}

// pair is a Log, and what it is held against.
type pair struct {
	l *Log
	m *toldLog
}

func newPair() pair { return pair{New(), newTold()} }

// hold asks both for one thing, and holds the answers, and what is there then, against each other.
func (p pair) hold(t *testing.T, c call) api.Errno {
	t.Helper()
	want := p.m.do(c)
	if got := asked(p.l, c); got != want {
		t.Fatalf("%v = %v, want %v, in %v", c, got, want, p.m.row)
	}
	if got := p.l.All(); !slices.Equal(got, p.m.h) {
		t.Fatalf("All() = %v, want %v, behind %v", got, p.m.h, p.m.row)
	}
	bytes, safe := record*len(p.m.h)+p.m.half, record*p.m.safe
	if p.l.Bytes() != bytes || p.l.Safe() != safe {
		t.Fatalf("%d bytes, %d safe, want %d and %d, behind %v", p.l.Bytes(), p.l.Safe(), bytes, safe, p.m.row)
	}
	return want
}

func (p pair) holdFaces(t *testing.T) {
	t.Helper()
	want, err := faces.Of(p.m.h)
	if err != nil {
		t.Fatalf("Of(%v): %v", p.m.h, err)
	}
	if got, err := p.l.Faces(); got != want || err != nil {
		t.Fatalf("Faces() = %v, %v, want %v, behind %v", got, err, want, p.m.row)
	}
}

// everyRow hands out each row of so many out of some kinds.
func everyRow(long int, kinds []call, to func(row []call)) {
	var grow func(row []call)
	grow = func(row []call) {
		if len(row) == long {
			to(row)
			return
		}
		for _, k := range kinds {
			grow(append(slices.Clip(row), k))
		}
	}
	grow(nil)
}

func TestEveryShortRow(t *testing.T) {
	kinds := []call{
		do(think(0)), do(say(0, 1)), do(hear(1, 1)), {what: "sync"},
		fail(-1), fail(0), fail(1), fail(2),
		crash(-1), crash(record - 1), crash(record), crash(2*record - 1), crash(math.MaxInt),
	}
	rows, stopped := 0, 0
	everyRow(5, kinds, func(row []call) {
		rows++
		p := newPair()
		for _, c := range row {
			p.hold(t, c)
		}
		p.holdFaces(t)
		if p.m.hasStopped() {
			stopped++
		}
	})
	if rows != 371_293 || stopped < 10_000 {
		t.Errorf("%d rows, %d stopped at their end", rows, stopped)
	}
}

// dice are numbers that look thrown, and are the same each time.
type dice uint64

func (d *dice) below(n int) int {
	*d = *d*6364136223846793005 + 1442695040888963407
	return int(uint64(*d>>33) % uint64(n))
}

// one of some numbers.
func (d *dice) one(of ...int) int { return of[d.below(len(of))] }

// event that may be wrong in any way.
func (d *dice) event() api.Event {
	e := api.Event{Who: d.below(5), What: d.one(api.Say, api.Say, api.Hear, api.Hear, api.Hear), Word: 1 + d.below(30)}
	if d.below(6) == 0 {
		e = think(e.Who)
	}
	if d.below(40) == 0 {
		e.Who = d.one(math.MinInt, -1, 5, 256, math.MaxInt)
	}
	if d.below(40) == 0 {
		e.What = d.one(math.MinInt, -1, 0, 4, 257, math.MaxInt)
	}
	if d.below(40) == 0 {
		e.Word = d.one(math.MinInt, -1, 0, 31, 257, math.MaxInt)
	}
	return e
}

// throw a call; of 1000 so many are a Crash, and twice so many a Fail.
func (d *dice) throw(crashes int) call {
	switch kind := d.below(1_000); {
	case kind < crashes:
		return crash(d.one(math.MinInt, -1, 0, 1, record-1, record, record+1, d.below(20*record), d.below(60*record), math.MaxInt))
	case kind < 3*crashes:
		return fail(d.one(math.MinInt, -1, 0, 1, 2, d.below(10), d.below(60), math.MaxInt))
	case kind%10 == 0:
		return call{what: "sync"}
	}
	return do(d.event())
}

func TestLongRows(t *testing.T) {
	d := dice(51)
	counts := map[string]int{}
	for range 300 {
		p := newPair()
		// With few crashes a history fills up; with many ones little is ever there.
		crashes := d.one(1, 5, 20, 60)
		for range 300 {
			c := d.throw(crashes)
			wasStopped, was := p.m.hasStopped(), len(p.m.h)
			got := p.hold(t, c)
			counts[c.what+" "+got.Error()]++
			if got == api.ErrState && !wasStopped {
				counts[c.what+" stops"]++
			}
			if c.what == "crash" && wasStopped {
				counts["crash of one that has stopped"]++
			}
			if was > len(p.m.h) {
				counts["something is lost"]++
			}
		}
		p.holdFaces(t)
	}
	for _, kind := range []string{
		"do OK", "do ErrState", "do ErrFull", "do ErrRange", "do ErrClash", "do ErrNone", "do ErrShape", "do stops",
		"sync OK", "sync ErrState", "sync stops", "crash of one that has stopped", "something is lost",
	} {
		if counts[kind] < 50 {
			t.Errorf("%s: %d times, too few", kind, counts[kind])
		}
	}
}
