package run

import (
	"fmt"
	"regexp"
	"slices"
	"strconv"
	"strings"
	"testing"

	"mootbell/api"
)

// toldGroup is Z1 in another way: without vectors, by what each speaker knew, and by what came to each member;
// lines are told apart by what they look like.
type toldGroup struct {
	speech map[int][]int // by word: those that its speaker had said or heard by then
	way    []api.Packet
	came   [3][]int
	events []api.Event
}

func newTold() *toldGroup { return &toldGroup{speech: map[int][]int{}} }

var (
	twoNumbers = regexp.MustCompile(`^(say) (0|[1-9][0-9]{0,3}) (0|[1-9][0-9]{0,3})$`)
	oneNumber  = regexp.MustCompile(`^(give|drop|twice|heard|clock) (0|[1-9][0-9]{0,3})$`)
	noNumber   = regexp.MustCompile(`^(way|faces)$`)
)

// toldRun answers a text.
func toldRun(text string) string {
	if len(text) > 3000 {
		return "too long\n"
	}
	m := newTold()
	var out []string
	list := strings.Split(text, "\n")
	if list[len(list)-1] == "" {
		list = list[:len(list)-1]
	}
	for _, line := range list {
		out = append(out, m.answer(line)+"\n")
	}
	return strings.Join(out, "")
}

func (m *toldGroup) answer(line string) string {
	if w := twoNumbers.FindStringSubmatch(line); w != nil {
		return m.say(digits(w[2]), digits(w[3]))
	}
	if w := oneNumber.FindStringSubmatch(line); w != nil {
		return m.one(w[1], digits(w[2]))
	}
	switch w := noNumber.FindString(line); w {
	case "way":
		return row(m.way, func(p api.Packet) string { return fmt.Sprintf("%d>%d:%d", p.From, p.To, p.Word) })
	case "faces":
		return m.faces()
	}
	return "bad"
}

func (m *toldGroup) one(word string, n int) string {
	switch word {
	case "heard":
		if n > 4 {
			return "ErrRange"
		}
		return row(m.has(n), strconv.Itoa)
	case "clock":
		if n >= len(m.events) {
			return "ErrRange"
		}
		return m.clock(n)
	}
	if n >= len(m.way) {
		return "ErrRange"
	}
	p := m.way[n]
	if word == "twice" {
		if len(m.way) == 40 {
			return "ErrFull"
		}
		m.way = append(m.way, p)
		return "ok"
	}
	m.way = append(slices.Clone(m.way[:n]), m.way[n+1:]...)
	if word == "drop" {
		return "ok"
	}
	return row(m.come(p.To, p.Word), strconv.Itoa)
}

func digits(text string) int {
	n := 0
	for _, digit := range text {
		n = 10*n + strings.IndexRune("0123456789", digit)
	}
	return n
}

func row[T any](list []T, tell func(T) string) string {
	if len(list) == 0 {
		return "-"
	}
	text := tell(list[0])
	for _, one := range list[1:] {
		text += " " + tell(one)
	}
	return text
}

// has are the words that a member said or heard.
func (m *toldGroup) has(who int) []int {
	var l []int
	for _, e := range m.events {
		if e.Who == who {
			l = append(l, e.Word)
		}
	}
	return l
}

func (m *toldGroup) say(who, word int) string {
	switch _, was := m.speech[word]; {
	case who > 2, word < 1, word > 30:
		return "ErrRange"
	case was:
		return "ErrClash"
	case len(m.way) > 38, len(m.speech) == 20:
		return "ErrFull"
	}
	m.speech[word] = m.has(who)
	m.events = append(m.events, api.Event{Who: who, What: api.Say, Word: word})
	for to := range 3 {
		if to != who {
			m.way = append(m.way, api.Packet{From: who, To: to, Word: word})
		}
	}
	return "ok"
}

// come lets a word come to a member, and whatever it can hear by that.
func (m *toldGroup) come(to, word int) []int {
	if slices.Contains(m.came[to], word) {
		return nil
	}
	m.came[to] = append(m.came[to], word)
	var l []int
	for {
		at := slices.IndexFunc(m.came[to], func(word int) bool { return m.canHear(to, word) })
		if at < 0 {
			return l
		}
		l = append(l, m.came[to][at])
		m.events = append(m.events, api.Event{Who: to, What: api.Hear, Word: m.came[to][at]})
	}
}

func (m *toldGroup) canHear(who, word int) bool {
	has := m.has(who)
	lacks := func(w int) bool { return !slices.Contains(has, w) }
	return lacks(word) && !slices.ContainsFunc(m.speech[word], lacks)
}

// faces: what is heard by cause has the first two always.
func (m *toldGroup) faces() string {
	for a, b := range map[int]int{0: 1, 1: 2, 2: 0} {
		left, right := m.has(a), m.has(b)
		both := slices.DeleteFunc(slices.Clone(left), func(word int) bool { return !slices.Contains(right, word) })
		at := 0
		for _, word := range right {
			if at < len(both) && word == both[at] {
				at++
			}
		}
		if at < len(both) {
			return "fifo causal"
		}
	}
	return "fifo causal total"
}

// clock counts what is behind an event by going back from it.
func (m *toldGroup) clock(at int) string {
	behind := map[int]bool{}
	var back func(at int)
	back = func(at int) {
		if behind[at] {
			return
		}
		behind[at] = true
		for before := range at {
			one, e := m.events[before], m.events[at]
			if one.Who == e.Who || one.What == api.Say && one.Word == e.Word {
				back(before)
			}
		}
	}
	back(at)
	counts := make([]int, 5)
	for before := range behind {
		counts[m.events[before].Who]++
	}
	return row(counts, strconv.Itoa)
}

func hold(t *testing.T, text string) {
	t.Helper()
	if got, want := Run(text), toldRun(text); got != want {
		t.Fatalf("Run(%q) =\n%q, want\n%q", text, got, want)
	}
}

// looks are lines that tell all that can be told, of not more than so many events.
func looks(events int) string {
	text := "way\nheard 0\nheard 1\nheard 2\nheard 3\nfaces\n"
	for at := range events + 1 {
		text += fmt.Sprintf("clock %d\n", at)
	}
	return text
}

func TestPlaysAreToldAlike(t *testing.T) {
	text, want := all(plays())
	if got := toldRun(text); got != want {
		t.Fatalf("the second telling answers\n%q, want\n%q", got, want)
	}
	for _, line := range append(wrong(), append(badNumbers(), goodNumbers()...)...) {
		hold(t, line)
		hold(t, "give "+line+"\nsay 0 "+line+"\nsay "+line+" 1\nway")
	}
}

func TestEveryShortRow(t *testing.T) {
	kinds := []string{"say 0 W", "say 1 W", "say 2 W", "say 1 1", "give 0", "give 1", "give 3", "drop 1", "twice 0", "say 1  2"}
	var grow func(text string, long int)
	grow = func(text string, long int) {
		if long == 5 {
			hold(t, text+looks(6))
			return
		}
		for _, kind := range kinds {
			grow(text+strings.Replace(kind, "W", strconv.Itoa(long+1), 1)+"\n", long+1)
		}
	}
	grow("", 0)
}

// dice are numbers that look thrown, and are the same each time.
type dice uint64

func (d *dice) below(n int) int {
	*d = *d*6364136223846793005 + 1442695040888963407
	return int(uint64(*d>>33) % uint64(n))
}

// throw makes a line; the more gives, the emptier the way stays.
func (d *dice) throw(gives int) string {
	if d.below(30) == 0 {
		odd := append(append(wrong(), badNumbers()...), goodNumbers()...)
		return odd[d.below(len(odd))]
	}
	lines := []string{
		fmt.Sprintf("say %d %d", d.below(3), d.below(30)+1),
		fmt.Sprintf("say %d %d", d.below(3), d.below(30)+1),
		fmt.Sprintf("say %d %d", d.below(5), d.below(33)),
		fmt.Sprintf("drop %d", d.below(42)),
		fmt.Sprintf("twice %d", d.below(42)),
		fmt.Sprintf("twice %d", d.below(8)),
		fmt.Sprintf("heard %d", d.below(7)),
		fmt.Sprintf("clock %d", d.below(62)),
		"faces",
		"way",
	}
	if i := d.below(len(lines) + gives); i < len(lines) {
		return lines[i]
	}
	return fmt.Sprintf("give %d", d.below(16))
}

func TestLongRows(t *testing.T) {
	d := dice(11)
	for range 1500 {
		gives := d.below(12)
		var b strings.Builder
		for b.Len() < api.MaxRun {
			b.WriteString(d.throw(gives) + "\n")
		}
		hold(t, b.String()[:d.below(api.MaxRun+1)])
		hold(t, b.String()[:api.MaxRun])
		hold(t, b.String())
	}
}

// Texts of which some bytes are others, or too many, or lacking.
func TestThrownBytes(t *testing.T) {
	text, _ := all(plays())
	bytes := "\n\n\n   0123456789saygivedroptwcehfkl-+>:\r\t\x00\xff"
	d := dice(13)
	for range 20000 {
		b := []byte(text)
		for range d.below(6) + 1 {
			at, one := d.below(len(b)), bytes[d.below(len(bytes))]
			switch d.below(3) {
			case 0:
				b[at] = one
			case 1:
				b = slices.Insert(b, at, one)
			case 2:
				b = slices.Delete(b, at, at+1)
			}
		}
		hold(t, string(b))
	}
	for range 20000 {
		var b []byte
		for range d.below(60) {
			b = append(b, bytes[d.below(len(bytes))])
		}
		hold(t, string(b))
	}
}
