package run

import (
	"errors"
	"fmt"
	"slices"
	"strings"
	"sync"
	"testing"

	"mootbell/api"
)

// step is a line, and what it is answered by.
type step struct{ line, answer string }

// all are the lines of steps, and their answers, each with byte 10 behind it.
func all(steps []step) (text, want string) {
	for _, s := range steps {
		text += s.line + "\n"
		want += s.answer + "\n"
	}
	return text, want
}

// oks are lines that are taken.
func oks(lines ...string) []step {
	var steps []step
	for _, line := range lines {
		steps = append(steps, step{line, "ok"})
	}
	return steps
}

func answers(t *testing.T, text, want string) {
	t.Helper()
	if got := Run(text); got != want {
		t.Fatalf("Run(%q) =\n%q, want\n%q", text, got, want)
	}
}

// asks holds the answers to some lines against what is asked for.
func asks(t *testing.T, steps ...step) {
	t.Helper()
	text, want := all(steps)
	answers(t, text, want)
}

// behind asks behind lines that are taken.
func behind(t *testing.T, taken []string, steps ...step) {
	t.Helper()
	asks(t, append(oks(taken...), steps...)...)
}

// plays has lines of each kind, what they tell, and errors, and none that is bad.
func plays() []step {
	return []step{
		{"faces", "fifo causal total"},
		{"way", "-"},
		{"clock 0", "ErrRange"},
		{"say 0 7", "ok"},
		{"way", "0>1:7 0>2:7"},
		{"clock 0", "1 0 0 0 0"},
		{"give 0", "7"},
		{"say 1 8", "ok"},
		{"way", "0>2:7 1>0:8 1>2:8"},
		{"give 2", "-"},
		{"give 0", "7 8"},
		{"twice 0", "ok"},
		{"way", "1>0:8 1>0:8"},
		{"give 1", "8"},
		{"give 0", "-"},
		{"give 0", "ErrRange"},
		{"heard 0", "7 8"},
		{"heard 1", "7 8"},
		{"heard 2", "7 8"},
		{"heard 3", "-"},
		{"heard 5", "ErrRange"},
		{"clock 4", "1 2 2 0 0"},
		{"clock 5", "2 2 0 0 0"},
		{"clock 6", "ErrRange"},
		{"say 1 7", "ErrClash"},
		{"say 3 9", "ErrRange"},
		{"say 0 30", "ok"},
		{"say 2 29", "ok"},
		{"way", "0>1:30 0>2:30 2>0:29 2>1:29"},
		{"drop 1", "ok"},
		{"drop 3", "ErrRange"},
		{"give 2", "29"},
		{"give 1", "29"},
		{"faces", "fifo causal total"},
		{"give 0", "30"},
		{"faces", "fifo causal"},
		{"heard 0", "7 8 30 29"},
		{"heard 1", "7 8 29 30"},
		{"heard 2", "7 8 29"},
		{"twice 0", "ErrRange"},
		{"way", "-"},
	}
}

func TestSession(t *testing.T) { asks(t, plays()...) }

func TestSay(t *testing.T) {
	ways := [3]string{"0>1:%d 0>2:%[1]d", "1>0:%d 1>2:%[1]d", "2>0:%d 2>1:%[1]d"}
	clocks := [3]string{"1 0 0 0 0", "0 1 0 0 0", "0 0 1 0 0"}
	for who := range 3 {
		for word := 1; word <= 30; word++ {
			one := fmt.Sprint(word)
			asks(t,
				step{fmt.Sprintf("say %d %d", who, word), "ok"},
				step{"way", fmt.Sprintf(ways[who], word)},
				step{fmt.Sprintf("heard %d", who), one},
				step{"clock 0", clocks[who]},
				step{"clock 1", "ErrRange"},
				step{"give 1", one},
				step{"give 0", one},
				step{"way", "-"},
				step{"faces", "fifo causal total"})
		}
	}
}

func TestSayOutOfRange(t *testing.T) {
	for _, line := range []string{"say 3 1", "say 4 1", "say 5 1", "say 9999 1", "say 0 0", "say 1 31", "say 2 9999", "say 3 0", "say 9999 9999", "say 256 1", "say 0 257", "say 3 5"} {
		asks(t, step{line, "ErrRange"}, step{"way", "-"}, step{"clock 0", "ErrRange"})
		behind(t, []string{"say 2 5"}, step{line, "ErrRange"}, step{"way", "2>0:5 2>1:5"}, step{"clock 1", "ErrRange"})
	}
}

func TestSayAgain(t *testing.T) {
	for _, line := range []string{"say 0 5", "say 1 5", "say 2 5"} {
		behind(t, []string{"say 1 5"}, step{line, "ErrClash"}, step{"way", "1>0:5 1>2:5"}, step{"clock 1", "ErrRange"})
		behind(t, []string{"say 1 5", "drop 0", "drop 0"}, step{line, "ErrClash"}, step{"way", "-"})
	}
}

func TestNoRoomOnTheWay(t *testing.T) {
	// One less than a word needs.
	filled := append(oks("say 0 1"), slices.Repeat(oks("twice 1"), 37)...)
	asks(t, append(filled,
		step{"say 1 2", "ErrFull"},
		step{"say 0 1", "ErrClash"},
		step{"say 3 2", "ErrRange"},
		step{"twice 39", "ErrRange"},
		step{"twice 0", "ok"},
		step{"twice 0", "ErrFull"},
		step{"twice 39", "ErrFull"},
		step{"twice 40", "ErrRange"},
		step{"drop 40", "ErrRange"},
		step{"give 40", "ErrRange"},
		step{"way", "0>1:1 " + strings.Repeat("0>2:1 ", 38) + "0>1:1"},
		step{"drop 39", "ok"},
		step{"say 2 2", "ErrFull"},
		step{"give 0", "1"},
		step{"say 2 2", "ok"},
		step{"way", strings.Repeat("0>2:1 ", 38) + "2>0:2 2>1:2"},
		step{"clock 2", "0 0 1 0 0"},
		step{"clock 3", "ErrRange"})...)
}

func TestNoRoomInTheHistory(t *testing.T) {
	var steps []step
	for word := 1; word <= 20; word++ {
		one := fmt.Sprint(word)
		steps = append(steps, step{fmt.Sprintf("say %d %d", word%3, word), "ok"}, step{"give 0", one}, step{"give 0", one})
	}
	asks(t, append(steps,
		step{"say 0 21", "ErrFull"},
		step{"say 1 20", "ErrClash"},
		step{"say 1 31", "ErrRange"},
		step{"clock 59", "18 20 20 0 0"},
		step{"clock 60", "ErrRange"},
		step{"heard 1", "1 2 3 4 5 6 7 8 9 10 11 12 13 14 15 16 17 18 19 20"},
		step{"way", "-"},
		step{"faces", "fifo causal total"})...)
}

func TestGive(t *testing.T) {
	// The first, one between, and the last; by the fourth, two are heard at once.
	behind(t, []string{"say 1 5", "say 1 6"},
		step{"give 3", "-"},
		step{"give 1", "5 6"},
		step{"give 1", "-"},
		step{"give 0", "5 6"},
		step{"give 0", "ErrRange"})
	behind(t, []string{"say 1 5", "say 1 6"},
		step{"give 4", "ErrRange"},
		step{"give 9999", "ErrRange"},
		step{"give 1", "5"},
		step{"give 2", "6"},
		step{"give 2", "ErrRange"},
		step{"way", "1>0:5 1>0:6"})
	// One that comes a second time, when it was heard, and while it waits.
	behind(t, []string{"say 0 9", "twice 0"}, step{"give 0", "9"}, step{"give 1", "-"}, step{"way", "0>2:9"})
	behind(t, []string{"say 0 9", "say 0 8", "twice 2"}, step{"give 4", "-"}, step{"give 2", "-"}, step{"give 0", "9 8"})
	// In the order in which they are heard, not by their numbers.
	behind(t, []string{"say 2 30", "say 2 4", "say 2 10"}, step{"give 5", "-"}, step{"give 3", "-"}, step{"give 1", "30 4 10"})
}

func TestDropAndTwice(t *testing.T) {
	for i, one := range []string{"2>0:3", "2>1:3", "2>0:1", "2>1:1"} {
		were := []string{"2>0:3", "2>1:3", "2>0:1", "2>1:1"}
		behind(t, []string{"say 2 3", "say 2 1", fmt.Sprintf("drop %d", i)},
			step{"way", strings.Join(slices.Delete(slices.Clone(were), i, i+1), " ")},
			step{"drop 3", "ErrRange"},
			step{"twice 3", "ErrRange"})
		behind(t, []string{"say 2 3", "say 2 1", fmt.Sprintf("twice %d", i)},
			step{"way", strings.Join(append(were, one), " ")},
			step{"drop 5", "ErrRange"},
			step{"twice 5", "ErrRange"})
	}
	for _, line := range []string{"drop 0", "drop 1", "drop 9999", "twice 0", "twice 1", "twice 9999"} {
		asks(t, step{line, "ErrRange"}, step{"way", "-"})
	}
}

func TestWay(t *testing.T) {
	asks(t, step{"way", "-"}, step{"say 1 30", "ok"}, step{"drop 0", "ok"}, step{"way", "1>2:30"}, step{"drop 0", "ok"}, step{"way", "-"})
	behind(t, []string{"say 2 10", "say 0 1", "twice 0", "say 1 20"}, step{"way", "2>0:10 2>1:10 0>1:1 0>2:1 2>0:10 1>0:20 1>2:20"})
}

func TestHeard(t *testing.T) {
	for who := range api.Members {
		asks(t, step{fmt.Sprintf("heard %d", who), "-"})
	}
	// There are members of a history that are none of the group.
	behind(t, []string{"say 0 12", "say 2 4"},
		step{"give 2", "4"},
		step{"heard 0", "12 4"},
		step{"heard 1", "-"},
		step{"heard 2", "4"},
		step{"heard 3", "-"},
		step{"heard 4", "-"},
		step{"heard 5", "ErrRange"},
		step{"heard 6", "ErrRange"},
		step{"heard 9999", "ErrRange"})
}

// What waits is on its way no more, and not heard.
func TestHeardWithoutWhatWaits(t *testing.T) {
	behind(t, []string{"say 0 12", "say 0 4"},
		step{"give 2", "-"},
		step{"way", "0>1:12 0>2:12 0>2:4"},
		step{"heard 1", "-"},
		step{"clock 2", "ErrRange"},
		step{"give 0", "12 4"},
		step{"heard 1", "12 4"})
}

func TestFaces(t *testing.T) {
	behind(t, []string{"say 0 1", "say 1 2"},
		step{"faces", "fifo causal total"},
		step{"give 0", "1"},
		step{"faces", "fifo causal total"},
		step{"give 1", "2"},
		step{"faces", "fifo causal"},
		step{"give 0", "1"},
		step{"give 0", "2"},
		step{"faces", "fifo causal"})
	// Of one member alone, in whatever order it comes.
	behind(t, []string{"say 0 1", "say 0 2"},
		step{"give 2", "-"},
		step{"faces", "fifo causal total"},
		step{"give 2", "-"},
		step{"give 1", "1 2"},
		step{"faces", "fifo causal total"})
}

// In a group that hears by cause no line makes the others untrue: so of those the answer is asked alone.
func TestNamesOfFaces(t *testing.T) {
	for _, c := range []struct {
		f    api.Faces
		want string
	}{
		{api.Faces{}, "-"},
		{api.Faces{Fifo: true}, "fifo"},
		{api.Faces{Causal: true}, "causal"},
		{api.Faces{Total: true}, "total"},
		{api.Faces{Fifo: true, Causal: true}, "fifo causal"},
		{api.Faces{Fifo: true, Total: true}, "fifo total"},
		{api.Faces{Causal: true, Total: true}, "causal total"},
		{api.Faces{Fifo: true, Causal: true, Total: true}, "fifo causal total"},
	} {
		if got, err := named(c.f, nil); got != c.want || err != nil {
			t.Errorf("named(%v) = %q, %v, want %q", c.f, got, err, c.want)
		}
		if got, err := named(c.f, api.ErrNone); got != "" || err != api.ErrNone {
			t.Errorf("named(%v) = %q, %v, want ErrNone", c.f, got, err)
		}
	}
}

func TestClock(t *testing.T) {
	for _, line := range []string{"clock 0", "clock 1", "clock 9999"} {
		asks(t, step{line, "ErrRange"})
	}
	behind(t, []string{"say 0 1", "say 2 2"},
		step{"give 1", "1"}, // by member 2
		step{"clock 0", "1 0 0 0 0"},
		step{"clock 1", "0 0 1 0 0"},
		step{"clock 2", "1 0 2 0 0"},
		step{"clock 3", "ErrRange"},
		step{"say 2 3", "ok"},
		step{"clock 2", "1 0 2 0 0"},
		step{"clock 3", "1 0 3 0 0"},
		step{"clock 4", "ErrRange"},
		step{"clock 60", "ErrRange"},
		step{"clock 9999", "ErrRange"})
}

// Twelve of one member, so that a number has two digits.
func TestClockAboveNine(t *testing.T) {
	var steps []step
	for word := 1; word <= 12; word++ {
		steps = append(steps, oks(fmt.Sprintf("say 0 %d", word))...)
	}
	asks(t, append(steps, step{"clock 9", "10 0 0 0 0"}, step{"clock 11", "12 0 0 0 0"}, step{"clock 12", "ErrRange"})...)
}

func TestLinesOfAText(t *testing.T) {
	for _, c := range []struct{ text, want string }{
		{"", ""},
		{"\n", "bad\n"},
		{"\n\n", "bad\nbad\n"},
		{"way", "-\n"},
		{"way\n", "-\n"},
		{"way\n\n", "-\nbad\n"},
		{"\nway", "bad\n-\n"},
		{"\nway\n", "bad\n-\n"},
		{"way\n\nway", "-\nbad\n-\n"},
		{"way\n\n\nway\n", "-\nbad\nbad\n-\n"},
		{"way\nheard 1", "-\n-\n"},
		{"way\nheard 5\nfaces\n", "-\nErrRange\nfifo causal total\n"},
		{"say 0 1\nway", "ok\n0>1:1 0>2:1\n"},
		{" ", "bad\n"},
		{"\n ", "bad\nbad\n"},
		{"\x00", "bad\n"},
		{"a", "bad\n"},
	} {
		answers(t, c.text, c.want)
	}
}

func TestTooLong(t *testing.T) {
	ways := strings.Repeat("way\n", api.MaxRun/4)
	long := strings.Repeat("x", api.MaxRun)
	for _, c := range []struct{ text, want string }{
		{strings.Repeat("\n", api.MaxRun), strings.Repeat("bad\n", api.MaxRun)},
		{strings.Repeat("\n", api.MaxRun+1), "too long\n"},
		{ways, strings.Repeat("-\n", api.MaxRun/4)},
		{ways + "\n", "too long\n"},
		{ways + "w", "too long\n"},
		{ways[1:] + "w", "bad\n" + strings.Repeat("-\n", api.MaxRun/4-1) + "bad\n"},
		{long, "bad\n"},
		{long + "x", "too long\n"},
		{long + "\n", "too long\n"},
		{long[1:] + "\n", "bad\n"},
		{"say 0 1\n" + long[8:], "ok\nbad\n"},
		{"say 0 1\n" + long, "too long\n"},
		{strings.Repeat(long, 1000), "too long\n"},
		// By bytes, not by what they write.
		{strings.Repeat("é", api.MaxRun/2), "bad\n"},
		{strings.Repeat("é", api.MaxRun/2) + "x", "too long\n"},
		{strings.Repeat("\xff", api.MaxRun), "bad\n"},
		{strings.Repeat("\xff", api.MaxRun+1), "too long\n"},
	} {
		if got := Run(c.text); got != c.want {
			t.Errorf("Run of %d bytes, %.20q.. = %.40q, want %.40q", len(c.text), c.text, got, c.want)
		}
	}
}

func goodNumbers() []string {
	return []string{"0", "1", "2", "9", "10", "11", "99", "100", "999", "1000", "1001", "9998", "9999"}
}

func badNumbers() []string {
	return []string{
		"00", "01", "02", "007", "010", "0000", "0001", "00001", // a needless 0
		"10000", "99999", "12345", "100000", "4294967296", "9223372036854775807", "9223372036854775808", "18446744073709551616", strings.Repeat("9", 400), // five digits, and more
		"-0", "-1", "-9", "-999", "-9999", "+0", "+1", "+9999", "--1", // signs
		"a", "x", "1a", "a1", "1e1", "0x1", "0b1", "0o1", "1_0", "1.0", "1,0", ".", "1.", "O", "l", "N",
		"1\r", "1\t", "\t1", "\x001", "1\x00", "/", ":", "1/", "1:", "\x80", "1\xff", "1;",
		"１", "٣", "²", "½", "\u00a01", "1\u2009", "Ⅷ",
	}
}

// Each N of each line that wants one, where the other one is good.
func TestNumbersOfLines(t *testing.T) {
	for _, line := range []string{"give N", "drop N", "twice N", "heard N", "clock N", "say N 1", "say 0 N"} {
		for _, n := range goodNumbers() {
			answer := strings.TrimSuffix(Run(strings.Replace(line, "N", n, 1)), "\n")
			if !slices.Contains([]string{"ok", "-", "ErrRange"}, answer) {
				t.Errorf("%s with %s is answered %q", line, n, answer)
			}
		}
		for _, n := range append(badNumbers(), "") {
			asks(t, step{strings.Replace(line, "N", n, 1), "bad"}, step{"way", "-"}, step{"clock 0", "ErrRange"})
			behind(t, []string{"say 1 9"}, step{strings.Replace(line, "N", n, 1), "bad"}, step{"way", "1>0:9 1>2:9"}, step{"clock 1", "ErrRange"})
		}
	}
}

// That a number can't be read is told ahead of what else is wrong.
func TestBadAheadOfErrors(t *testing.T) {
	for _, line := range []string{"say 3 01", "say 03 1", "say 31 x", "say x 31", "say 9999 10000", "say -1 0", "say 1 9 9", "give 9999 1", "heard 5 5", "clock 9999 0"} {
		behind(t, []string{"say 1 9"}, step{line, "bad"}, step{"say 1 9", "ErrClash"}, step{"way", "1>0:9 1>2:9"})
	}
}

func TestNumber(t *testing.T) {
	for want := range 10000 {
		if n, err := number(fmt.Sprint(want)); n != want || err != nil {
			t.Fatalf("number(%d) = %d, %v", want, n, err)
		}
	}
	for _, text := range append(badNumbers(), "", " ", " 1", "1 ", "1\n") {
		if n, err := number(text); n != 0 || told(err) != "bad" {
			t.Errorf("number(%q) = %d, %v, want bad", text, n, err)
		}
	}
}

// good has a line of each kind.
func good() []string {
	return []string{"say 1 9", "give 0", "drop 0", "twice 0", "way", "heard 0", "faces", "clock 0"}
}

// spoiled are lines made of a good one, each of which is bad.
func spoiled(line string) []string {
	word, numbers, _ := strings.Cut(line, " ")
	l := []string{
		" " + line, line + " ", "  " + line, line + "  ", " " + line + " ", // a blank too many
		line + " 0", line + " 1", line + " x", line + " " + line, "0 " + line, "say " + line, // a word too many
		line + "\r", "\r" + line, line + "\t", "\t" + line, line + "\v", line + "\f", line + "\x00", line + "\u00a0", line + "\u0085",
		"\ufeff" + line, line + ".", line + ";", line + "#", line + " # 1",
		strings.ToUpper(line), strings.ToUpper(line[:1]) + line[1:], line[1:],
		strings.Replace(line, word, word+"s", 1), strings.Replace(line, word, "N", 1),
		word + "=" + numbers, word + ":" + numbers,
	}
	if numbers != "" {
		l = append(l,
			word, word+" ", numbers, " "+numbers, // a word too few
			word+"  "+numbers, word+"\t"+numbers, word+"\r"+numbers, word+" \t"+numbers, word+numbers, word+","+numbers, word+"\u00a0"+numbers)
	}
	for at := range line {
		if line[at] != ' ' {
			l = append(l, line[:at]+"\r"+line[at:], line[:at]+"\t"+line[at:], line[:at]+"\xff"+line[at+1:])
		} else {
			l = append(l, line[:at]+" "+line[at:], line[:at]+line[at+1:], line[:at]+"\t"+line[at+1:], line[:at])
		}
	}
	return l
}

func TestSpoiledLines(t *testing.T) {
	for _, line := range append(good(), "say 0 30", "give 1", "heard 10", "clock 9999") {
		for _, bad := range spoiled(line) {
			behind(t, []string{"say 1 5"}, step{bad, "bad"}, step{"way", "1>0:5 1>2:5"}, step{"clock 0", "0 1 0 0 0"}, step{"clock 1", "ErrRange"})
		}
	}
}

func TestAnyOtherLine(t *testing.T) {
	for _, line := range []string{
		"fly", "think 0", "think 0 1", "hear 0 1", "cut 0 1", "history", "onway", "ways", "wa", "w", "ok", "bad", "-", "0", "1 2", "too long",
		"Heard", "of", "lacks 0", "saygive 0", "say", "say 1", "say 1 2 3", "give", "give 0 0", "drop", "drop 0 0", "twice", "twice 0 0", "way 0", "way way",
		"heard", "heard 0 1", "faces 2", "faces fifo", "clock", "clock 0 0", "say 0 1 say 1 2", "0>1:1", "say 0,1", "say(0,1)", "ErrRange", "\\n", "//", "wäy",
	} {
		asks(t, step{line, "bad"}, step{"way", "-"}, step{"clock 0", "ErrRange"})
	}
}

// wrong are lines that are bad, whatever stands ahead of them.
func wrong() []string {
	l := []string{"", " ", "fly", "say 0", "say 0 1 2", "say 0 01", "say x 1", "give", "give 01", "drop -1", "twice 1 1", "way 0", "heard +1", "faces ", " faces", "clock 12345", "say  0 1", "give 0\r"}
	for _, line := range good() {
		l = append(l, line+"\t", line+" 00")
	}
	return l
}

// refused are lines that are answered by an error behind any of the lines of plays.
func refused() []step {
	return []step{
		{"say 3 1", "ErrRange"}, {"say 0 31", "ErrRange"}, {"say 1 0", "ErrRange"}, {"give 40", "ErrRange"}, {"drop 40", "ErrRange"},
		{"twice 40", "ErrRange"}, {"heard 5", "ErrRange"}, {"clock 60", "ErrRange"}, {"give 9999", "ErrRange"},
	}
}

func TestBadAndRefusedChangeNothing(t *testing.T) {
	between := refused()
	for _, line := range wrong() {
		between = append(between, step{line, "bad"})
	}
	steps := plays()
	for _, b := range between {
		var more []step
		for at, s := range steps {
			asks(t, slices.Insert(slices.Clone(steps), at, b)...)
			more = append(more, b, s)
		}
		asks(t, append(more, b)...)
	}
}

// A word that was refused for any reason can still be said, and nothing of it is on its way.
func TestRefusedWordsWereNotSaid(t *testing.T) {
	filled := append(oks("say 0 1"), slices.Repeat(oks("twice 0"), 38)...)
	asks(t, append(filled,
		step{"say 1 2", "ErrFull"},
		step{"say 0 1", "ErrClash"},
		step{"say 3 3", "ErrRange"},
		step{"say 1 02", "bad"},
		step{"twice 0", "ErrFull"},
		step{"drop 39", "ok"},
		step{"heard 1", "-"},
		step{"give 0", "1"},
		step{"say 1 2", "ok"},
		step{"clock 2", "1 2 0 0 0"},
		step{"say 0 3", "ErrFull"},
		step{"clock 3", "ErrRange"})...)
}

// The first lines of a text, with and without byte 10 behind them, and with the half of one.
func TestFirstLines(t *testing.T) {
	var steps []step
	for at, s := range plays() {
		steps = append(steps, step{wrong()[at%len(wrong())], "bad"}, s, refused()[at%len(refused())])
	}
	text, whole := all(steps)
	for n := range len(steps) + 1 {
		some, want := all(steps[:n])
		answers(t, some, want)
		if n > 0 && steps[n-1].line != "" {
			answers(t, strings.TrimSuffix(some, "\n"), want)
		}
		if !strings.HasPrefix(whole, Run(some)) {
			t.Fatalf("%q is not how %q begins", Run(some), whole)
		}
	}
	for n := range len(text) + 1 {
		some := text[:strings.LastIndex(text[:n], "\n")+1]
		if got := Run(text[:n]); !strings.HasPrefix(got, Run(some)) {
			t.Fatalf("Run(%q) = %q, begins not as %q", text[:n], got, Run(some))
		}
	}
}

// What is too long is answered by that alone, whatever its first lines are.
func TestFirstLinesOfOneTooLong(t *testing.T) {
	text := "say 0 1\nway\n" + strings.Repeat("way\n", 747)
	if len(text) != api.MaxRun {
		t.Fatalf("it is of %d bytes", len(text))
	}
	answers(t, text, "ok\n"+strings.Repeat("0>1:1 0>2:1\n", 748))
	answers(t, text+"w", "too long\n")
	answers(t, text+"\n", "too long\n")
}

// A text has a group of its own, also where others are answered at once.
func TestEachForItself(t *testing.T) {
	text, want := all(plays())
	for range 3 {
		answers(t, text, want)
		answers(t, "way\nclock 0\nsay 2 7", "-\nErrRange\nok\n")
	}
	var group sync.WaitGroup
	for range 8 {
		group.Go(func() {
			for range 20 {
				if got := Run(text); got != want {
					t.Errorf("Run(%q) =\n%q, want\n%q", text, got, want)
				}
			}
		})
	}
	group.Wait()
}

func TestLines(t *testing.T) {
	for _, c := range []struct {
		text string
		want []string
	}{
		{"", nil},
		{"\n", []string{""}},
		{"a", []string{"a"}},
		{"a\n", []string{"a"}},
		{"a\nb", []string{"a", "b"}},
		{"\n\na\r\n b ", []string{"", "", "a\r", " b "}},
	} {
		list := lines(c.text)
		// A second going over tells the same.
		for range 2 {
			if got := slices.Collect(list); !slices.Equal(got, c.want) {
				t.Errorf("lines(%q) = %q, want %q", c.text, got, c.want)
			}
		}
		for line := range list {
			if line != c.want[0] {
				t.Errorf("lines(%q) begins with %q", c.text, line)
			}
			break
		}
	}
}

// wrapped is an error that wraps another one.
type wrapped struct{ error }

func (w wrapped) Error() string { return "wrapped" }

func (w wrapped) Unwrap() error { return w.error }

func TestTold(t *testing.T) {
	for errno := api.ErrRange; errno <= api.ErrOut; errno++ {
		for _, err := range []error{errno, wrapped{errno}, wrapped{wrapped{errno}}} {
			if got := told(err); got != errno.Error() {
				t.Errorf("told(%#v) = %q, want %q", err, got, errno.Error())
			}
		}
		for _, err := range []error{lineError{errno}, wrapped{lineError{errno}}} {
			if got := told(err); got != "bad" {
				t.Errorf("told(%#v) = %q, want bad", err, got)
			}
		}
	}
	if got := told(errors.New("another")); got != "another" {
		t.Errorf("told of another one: %q", got)
	}
}
