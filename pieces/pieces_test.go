package pieces

import (
	"math"
	"slices"
	"strings"
	"testing"

	"mootbell/api"
	"mootbell/plain"
)

func piece(at, of int, text string) api.Piece { return api.Piece{At: at, Of: of, Text: text} }

// splits holds the pieces of a text against what is asked for.
func splits(t *testing.T, text string, size int, want ...api.Piece) {
	t.Helper()
	if got, err := Split(text, size); !slices.Equal(got, want) || err != nil {
		t.Fatalf("Split(%q, %d) = %#v, %v, want %#v", text, size, got, err, want)
	}
}

func splitRefuses(t *testing.T, text string, size int, want api.Errno) {
	t.Helper()
	if got, err := Split(text, size); got != nil || plain.Told(err) != want {
		t.Fatalf("Split(%q, %d) = %#v, %v, want nothing, %v", text, size, got, err, want)
	}
}

// takes hands pieces to a Joiner that are new to it; again hands it some that came already.
func takes(t *testing.T, j *Joiner, pieces ...api.Piece) {
	t.Helper()
	for _, p := range pieces {
		if is, err := j.Take(p); !is || err != nil {
			t.Fatalf("Take(%#v) = %v, %v, want true", p, is, err)
		}
	}
}

func again(t *testing.T, j *Joiner, pieces ...api.Piece) {
	t.Helper()
	for _, p := range pieces {
		text, told := j.Text()
		lack := j.Lacks()
		if is, err := j.Take(p); is || err != nil {
			t.Fatalf("Take(%#v) = %v, %v, want false", p, is, err)
		}
		looks(t, j, text, told, lack)
	}
}

// refuses hands a Joiner pieces of which something is told to be wrong, by which nothing that can
// be looked at changes.
func refuses(t *testing.T, j *Joiner, want api.Errno, pieces ...api.Piece) {
	t.Helper()
	for _, p := range pieces {
		text, told := j.Text()
		lack := j.Lacks()
		if is, err := j.Take(p); is || plain.Told(err) != want {
			t.Fatalf("Take(%#v) = %v, %v, want false, %v", p, is, err, want)
		}
		looks(t, j, text, told, lack)
	}
}

// looks holds Text and Lacks against what is asked for.
func looks(t *testing.T, j *Joiner, text string, told error, lack []int) {
	t.Helper()
	if got, err := j.Text(); got != text || plain.Told(err) != plain.Told(told) {
		t.Fatalf("Text = %q, %v, want %q, %v", got, err, text, told)
	}
	if got := j.Lacks(); !slices.Equal(got, lack) {
		t.Fatalf("Lacks = %v, want %v", got, lack)
	}
}

// whole tells that all came; lacks that some did, and which did not; empty that none came.
func whole(t *testing.T, j *Joiner, text string) {
	t.Helper()
	looks(t, j, text, nil, nil)
}

func lacks(t *testing.T, j *Joiner, lack ...int) {
	t.Helper()
	if len(lack) == 0 {
		t.Fatal("none is lacking: ask whole, or empty")
	}
	looks(t, j, "", api.ErrNone, lack)
}

func empty(t *testing.T, j *Joiner) {
	t.Helper()
	looks(t, j, "", api.ErrNone, nil)
}

// odd are bytes that are no letters.
func odd() string { return "\x00\x80\xff\n ;-\xc3\xa9\xe2\x82\xac\x7f\x00" }

// long makes a text of so many bytes, of which no two that are near are alike.
func long(bytes int) string {
	var b strings.Builder
	for at := range bytes {
		b.WriteByte(byte(at*37 + 200))
	}
	return b.String()
}

// noOf and noAt are numbers that neither may be; an At may be at or above Of, too.
func noOf() []int {
	return []int{math.MinInt, math.MinInt32, -api.MaxText, -1, 0, api.MaxText + 1, api.MaxText + 2, math.MaxInt32, math.MaxInt}
}

func noAt(of int) []int {
	return []int{math.MinInt, math.MinInt32, -of, -1, of, of + 1, api.MaxText, api.MaxText + 1, math.MaxInt32, math.MaxInt}
}

func noSize() []int {
	return []int{math.MinInt, math.MinInt32, -api.MaxPiece, -1, 0, api.MaxPiece + 1, api.MaxPiece + 2, api.MaxText, math.MaxInt32, math.MaxInt}
}

func TestSplit(t *testing.T) {
	splits(t, "abcdefgh", 3, piece(0, 3, "abc"), piece(1, 3, "def"), piece(2, 3, "gh"))
	splits(t, "abcdef", 2, piece(0, 3, "ab"), piece(1, 3, "cd"), piece(2, 3, "ef"))
	splits(t, "the same, in the same order", 12, piece(0, 3, "the same, in"), piece(1, 3, " the same or"), piece(2, 3, "der"))
}

func TestSplitEmpty(t *testing.T) {
	for size := 1; size <= api.MaxPiece; size++ {
		splits(t, "", size, piece(0, 1, ""))
	}
}

// TestSplitBySize: a text of as many bytes as size, of one less and of one more.
func TestSplitBySize(t *testing.T) {
	for size := 1; size <= api.MaxPiece; size++ {
		text := long(size + 1)
		splits(t, text[:size-1], size, piece(0, 1, text[:size-1]))
		splits(t, text[:size], size, piece(0, 1, text[:size]))
		splits(t, text, size, piece(0, 2, text[:size]), piece(1, 2, text[size:]))
	}
}

func TestSplitLongest(t *testing.T) {
	text := long(api.MaxText)
	for size := 1; size <= api.MaxPiece; size++ {
		got, err := Split(text, size)
		if err != nil {
			t.Fatalf("Split by %d told %v", size, err)
		}
		if want := []int{60, 30, 20, 15, 12, 10, 9, 8, 7, 6, 6, 5}[size-1]; len(got) != want {
			t.Errorf("Split by %d has %d pieces, want %d", size, len(got), want)
		}
		splitRefuses(t, long(api.MaxText+1), size, api.ErrFull)
		splitRefuses(t, strings.Repeat("a", 1000), size, api.ErrFull)
	}
}

func TestSplitIntoBytes(t *testing.T) {
	// Bytes are counted, not letters, and cut between any two.
	splits(t, "é\x00€", 1, piece(0, 6, "\xc3"), piece(1, 6, "\xa9"), piece(2, 6, "\x00"), piece(3, 6, "\xe2"), piece(4, 6, "\x82"), piece(5, 6, "\xac"))
	splits(t, odd(), 4, piece(0, 4, "\x00\x80\xff\n"), piece(1, 4, " ;-\xc3"), piece(2, 4, "\xa9\xe2\x82\xac"), piece(3, 4, "\x7f\x00"))
	splits(t, "\x00\x00\x00", 2, piece(0, 2, "\x00\x00"), piece(1, 2, "\x00"))
	splitRefuses(t, strings.Repeat("é", 31), 12, api.ErrFull)
	if got, err := Split(strings.Repeat("é", 30), 12); len(got) != 5 || err != nil {
		t.Errorf("Split of 30 letters of two bytes = %#v, %v", got, err)
	}
}

func TestSplitOutOfRange(t *testing.T) {
	for _, size := range noSize() {
		for _, text := range []string{"", "a", "abcdefghijkl", odd(), long(api.MaxText)} {
			splitRefuses(t, text, size, api.ErrRange)
		}
		// That it is too long is told ahead of its size.
		splitRefuses(t, long(api.MaxText+1), size, api.ErrFull)
		splitRefuses(t, long(10*api.MaxText), size, api.ErrFull)
	}
}

// byteByByte splits a text in another way: each byte is put to the last piece, if that has room.
func byteByByte(text string, size int) []api.Piece {
	texts := []string{""}
	for at := 0; at < len(text); at++ {
		if len(texts[len(texts)-1]) == size {
			texts = append(texts, "")
		}
		texts[len(texts)-1] += text[at : at+1]
	}
	var l []api.Piece
	for at, s := range texts {
		l = append(l, piece(at, len(texts), s))
	}
	return l
}

// orders are some in which pieces come: in order, back to front, first those of odd places, and
// from the middle on.
func orders(pieces []api.Piece) [][]api.Piece {
	back := slices.Clone(pieces)
	slices.Reverse(back)
	var apart, even []api.Piece
	for at, p := range pieces {
		if at%2 == 1 {
			apart = append(apart, p)
		} else {
			even = append(even, p)
		}
	}
	middle := len(pieces) / 2
	return [][]api.Piece{slices.Clone(pieces), back, append(apart, even...), append(slices.Clone(pieces[middle:]), pieces[:middle]...)}
}

// TestSplitAndJoin: every length and every size, and what was split is joined to what it was.
func TestSplitAndJoin(t *testing.T) {
	for bytes := 0; bytes <= api.MaxText; bytes++ {
		for size := 1; size <= api.MaxPiece; size++ {
			text := long(bytes)
			splits(t, text, size, byteByByte(text, size)...)
			got, err := Split(text, size)
			if err != nil {
				t.Fatal(err)
			}
			for _, order := range orders(got) {
				j := New()
				left := make([]int, len(got))
				for at := range left {
					left[at] = at
				}
				for _, p := range order {
					takes(t, j, p)
					left = slices.DeleteFunc(left, func(at int) bool { return at == p.At })
					if len(left) > 0 {
						lacks(t, j, left...)
					}
				}
				whole(t, j, text)
				again(t, j, order...)
			}
		}
	}
}

func TestNewIsOfNone(t *testing.T) {
	empty(t, New())
	for of := 1; of <= api.MaxText; of++ {
		j := New()
		takes(t, j, piece(of-1, of, "z"))
		if of > 1 {
			lacks(t, j, upTo(of-1)...)
		} else {
			whole(t, j, "z")
		}
	}
}

// upTo are the numbers from 0 to below n.
func upTo(n int) []int {
	var l []int
	for i := range n {
		l = append(l, i)
	}
	return l
}

func TestTake(t *testing.T) {
	j := New()
	takes(t, j, piece(2, 4, "th"))
	lacks(t, j, 0, 1, 3)
	takes(t, j, piece(0, 4, "first"))
	lacks(t, j, 1, 3)
	again(t, j, piece(2, 4, "th"), piece(0, 4, "first"))
	takes(t, j, piece(3, 4, "!"))
	lacks(t, j, 1)
	takes(t, j, piece(1, 4, " of "))
	whole(t, j, "first of th!")
	again(t, j, piece(1, 4, " of "), piece(2, 4, "th"), piece(0, 4, "first"), piece(3, 4, "!"), piece(3, 4, "!"))
}

func TestFirstBetweenAndLastLack(t *testing.T) {
	all := []api.Piece{piece(0, 5, "a"), piece(1, 5, "b"), piece(2, 5, "c"), piece(3, 5, "d"), piece(4, 5, "e")}
	for without, late := range all {
		for _, order := range orders(append(slices.Clone(all[:without]), all[without+1:]...)) {
			j := New()
			takes(t, j, order...)
			lacks(t, j, without)
			again(t, j, order...)
			lacks(t, j, without)
			takes(t, j, late)
			whole(t, j, "abcde")
		}
	}
	for has, first := range all {
		j := New()
		takes(t, j, first)
		lacks(t, j, slices.Delete(upTo(5), has, has+1)...)
	}
}

func TestOnePieceOfOne(t *testing.T) {
	for _, text := range []string{"", "a", "\x00", odd()[:api.MaxPiece], strings.Repeat("\xff", api.MaxPiece)} {
		j := New()
		takes(t, j, piece(0, 1, text))
		whole(t, j, text)
		again(t, j, piece(0, 1, text))
		refuses(t, j, api.ErrClash, piece(0, 1, "other"))
		refuses(t, j, api.ErrShape, piece(0, 2, text), piece(1, 2, text))
		refuses(t, j, api.ErrRange, piece(1, 1, text), piece(0, 0, text))
		whole(t, j, text)
	}
}

func TestAsManyAsMayBe(t *testing.T) {
	// Of the longest pieces, more bytes come together than a text has that is split.
	var all []api.Piece
	var text string
	for at := range api.MaxText {
		p := piece(at, api.MaxText, long(at + api.MaxPiece)[at:])
		all = append(all, p)
		text += p.Text
	}
	if len(text) != api.MaxText*api.MaxPiece {
		t.Fatalf("the text has %d bytes", len(text))
	}
	for _, order := range orders(all) {
		j := New()
		takes(t, j, order[:api.MaxText-1]...)
		lacks(t, j, order[api.MaxText-1].At)
		takes(t, j, order[api.MaxText-1])
		whole(t, j, text)
		again(t, j, order...)
		refuses(t, j, api.ErrRange, piece(api.MaxText, api.MaxText+1, ""), piece(api.MaxText, api.MaxText, ""), piece(0, api.MaxText+1, all[0].Text))
		refuses(t, j, api.ErrShape, piece(0, api.MaxText-1, all[0].Text))
	}
}

func TestPiecesOfAnyLength(t *testing.T) {
	// None was split by one size: shorter ones stand ahead of longer ones, and empty ones between.
	j := New()
	takes(t, j, piece(3, 6, "abcdefghijkl"), piece(0, 6, "x"), piece(1, 6, ""), piece(5, 6, ""))
	lacks(t, j, 2, 4)
	again(t, j, piece(1, 6, ""), piece(5, 6, ""))
	takes(t, j, piece(4, 6, ""), piece(2, 6, "yz"))
	whole(t, j, "xyzabcdefghijkl")

	// An empty text of several pieces is there when all came, not ahead.
	j = New()
	takes(t, j, piece(2, 3, ""), piece(0, 3, ""))
	lacks(t, j, 1)
	takes(t, j, piece(1, 3, ""))
	whole(t, j, "")
	again(t, j, piece(0, 3, ""), piece(1, 3, ""), piece(2, 3, ""))
}

func TestTextsThatAreNoLetters(t *testing.T) {
	j := New()
	takes(t, j, piece(1, 3, "\xa9\x00"), piece(0, 3, "\x00\xc3"))
	refuses(t, j, api.ErrClash, piece(1, 3, "\xa9"), piece(1, 3, "\xa9\x01"), piece(1, 3, "\x29\x00"), piece(0, 3, "\x00\u00c3"), piece(0, 3, "\xc3"))
	takes(t, j, piece(2, 3, "\xff\xfe\x80"))
	whole(t, j, "\x00\xc3\xa9\x00\xff\xfe\x80")
	refuses(t, j, api.ErrClash, piece(2, 3, "\xff\xfd\x80"), piece(2, 3, "\ufffd\ufffd\ufffd"))
}

// ready has Joiners to which nothing came, of several pieces some, and all.
func ready(t *testing.T) []*Joiner {
	t.Helper()
	some, all := New(), New()
	takes(t, some, piece(1, 3, "b"))
	takes(t, all, piece(0, 3, "a"), piece(1, 3, "b"), piece(2, 3, "c"))
	return []*Joiner{New(), some, all}
}

func TestTakeOutOfRange(t *testing.T) {
	tooLong := []string{long(api.MaxPiece + 1), long(api.MaxPiece + 2), strings.Repeat("é", 7), strings.Repeat("b", 100), strings.Repeat("\x00", 13)}
	for _, j := range ready(t) {
		for _, of := range noOf() {
			for _, at := range append(noAt(3), 0, 1, 2) {
				refuses(t, j, api.ErrRange, piece(at, of, "b"), piece(at, of, ""), piece(at, of, "other"), piece(at, of, tooLong[0]))
			}
		}
		for _, of := range []int{1, 2, 3, 4, api.MaxText - 1, api.MaxText} {
			// Also of another number of pieces, and of another Text.
			for _, at := range noAt(of) {
				if at < 0 || at >= of {
					refuses(t, j, api.ErrRange, piece(at, of, "b"), piece(at, of, ""), piece(at, of, "other"), piece(at, of, tooLong[0]))
				}
			}
			for _, text := range tooLong {
				refuses(t, j, api.ErrRange, piece(0, of, text), piece(of/2, of, text), piece(of-1, of, text))
			}
		}
	}
}

func TestLongestText(t *testing.T) {
	for _, text := range []string{long(api.MaxPiece), strings.Repeat("é", 6), "abcdefghijkl"} {
		j := New()
		refuses(t, j, api.ErrRange, piece(1, 2, text+"m"))
		empty(t, j)
		takes(t, j, piece(1, 2, text))
		refuses(t, j, api.ErrRange, piece(0, 2, text+"m"), piece(1, 2, text+"m"))
		refuses(t, j, api.ErrClash, piece(1, 2, text[:api.MaxPiece-1]))
		takes(t, j, piece(0, 2, text))
		whole(t, j, text+text)
	}
}

func TestAnotherNumberOfPieces(t *testing.T) {
	for _, j := range ready(t)[1:] {
		for of := 1; of <= api.MaxText; of++ {
			if of == 3 {
				continue
			}
			refuses(t, j, api.ErrShape, piece(0, of, "a"), piece(of-1, of, "z"), piece(of-1, of, ""))
			if of > 1 {
				// With an At and a Text that came, and with one that is another one, too.
				refuses(t, j, api.ErrShape, piece(1, of, "b"), piece(1, of, "other"))
			}
		}
	}
}

func TestAnotherText(t *testing.T) {
	j := New()
	takes(t, j, piece(0, 4, "word"), piece(1, 4, ""), piece(3, 4, "w"))
	refuses(t, j, api.ErrClash, piece(0, 4, "Word"), piece(0, 4, "wore"), piece(0, 4, "wor"), piece(0, 4, "words"), piece(0, 4, ""), piece(0, 4, "w"))
	refuses(t, j, api.ErrClash, piece(1, 4, "word"), piece(1, 4, "\x00"), piece(1, 4, " "))
	refuses(t, j, api.ErrClash, piece(3, 4, "word"), piece(3, 4, ""))
	lacks(t, j, 2)
	// The same Text at another place is no clash.
	takes(t, j, piece(2, 4, "word"))
	whole(t, j, "wordwordw")
	refuses(t, j, api.ErrClash, piece(0, 4, ""), piece(1, 4, "word"), piece(2, 4, "w"), piece(3, 4, "word"))
	again(t, j, piece(0, 4, "word"), piece(1, 4, ""), piece(2, 4, "word"), piece(3, 4, "w"))
}

func TestFirstNamedIsTold(t *testing.T) {
	j := New()
	takes(t, j, piece(0, 2, "a"))
	tooLong := long(api.MaxPiece + 1)
	// Range and shape; range and clash; all of them; shape and clash.
	refuses(t, j, api.ErrRange, piece(0, 0, "a"), piece(0, 61, "a"), piece(3, 3, "a"), piece(-1, 3, "a"), piece(1, 3, tooLong))
	refuses(t, j, api.ErrRange, piece(0, 2, tooLong))
	refuses(t, j, api.ErrRange, piece(0, 3, tooLong), piece(0, 61, "b"), piece(0, -2, "b"), piece(0, 0, tooLong))
	refuses(t, j, api.ErrShape, piece(0, 3, "b"), piece(0, 1, "b"), piece(0, 3, ""))
	refuses(t, j, api.ErrClash, piece(0, 2, "b"))
	lacks(t, j, 1)
}

func TestFirstThatIsRefused(t *testing.T) {
	for _, wrong := range []api.Piece{piece(0, 0, "a"), piece(0, 61, "a"), piece(2, 2, "a"), piece(-1, 2, "a"), piece(0, 2, long(13)), piece(60, 61, "")} {
		j := New()
		refuses(t, j, api.ErrRange, wrong, wrong)
		empty(t, j)
		// It takes what is of any number of pieces, and of any Text.
		takes(t, j, piece(0, 3, "b"), piece(2, 3, "d"))
		refuses(t, j, api.ErrRange, wrong)
		takes(t, j, piece(1, 3, "c"))
		whole(t, j, "bcd")
	}
}

func TestRefusedChangesNothing(t *testing.T) {
	j, same := New(), New()
	for _, good := range []api.Piece{piece(3, 4, "d"), piece(0, 4, "a"), piece(2, 4, "c"), piece(1, 4, "b")} {
		takes(t, j, good)
		takes(t, same, good)
		refuses(t, j, api.ErrRange, piece(4, 4, "e"), piece(-1, 4, "e"), piece(1, 4, long(13)), piece(1, 0, "b"), piece(1, 61, "b"))
		refuses(t, j, api.ErrShape, piece(1, 5, "b"), piece(1, 3, "b"), piece(0, 1, "a"))
		refuses(t, j, api.ErrClash, piece(good.At, 4, "e"), piece(good.At, 4, ""))
		again(t, j, good)
		text, told := same.Text()
		looks(t, j, text, told, same.Lacks())
	}
	whole(t, j, "abcd")
}

func TestEachForItself(t *testing.T) {
	one, other := New(), New()
	takes(t, one, piece(0, 2, "a"))
	empty(t, other)
	takes(t, other, piece(0, 3, "x"), piece(1, 3, "y"))
	lacks(t, one, 1)
	takes(t, one, piece(1, 2, "b"))
	whole(t, one, "ab")
	lacks(t, other, 2)
	takes(t, other, piece(2, 3, "z"))
	whole(t, other, "xyz")
	whole(t, one, "ab")
	empty(t, New())
}

func TestLookingChangesNothing(t *testing.T) {
	j := New()
	for range 3 {
		empty(t, j)
	}
	takes(t, j, piece(1, 2, "b"))
	for range 3 {
		lacks(t, j, 0)
	}
	takes(t, j, piece(0, 2, "a"))
	for range 3 {
		whole(t, j, "ab")
	}
}

// scrawl writes into a list, and what lies behind it in its memory.
func scrawl[T any](l []T, with T) {
	l = l[:cap(l)]
	for at := range l {
		l[at] = with
	}
}

func TestListsOfSplitAreTheCallers(t *testing.T) {
	var lists [][]api.Piece
	for _, text := range []string{"", "abcdefgh", "abcdefgh", odd(), long(api.MaxText), long(api.MaxText)} {
		for _, size := range []int{1, 3, api.MaxPiece, api.MaxPiece} {
			l, err := Split(text, size)
			if err != nil {
				t.Fatal(err)
			}
			lists = append(lists, l)
		}
	}
	for i, l := range lists {
		scrawl(l, piece(-1-i, 0, "other"))
	}
	for i, l := range lists {
		if slices.ContainsFunc(l, func(p api.Piece) bool { return p.At != -1-i }) {
			t.Errorf("list %d shares memory with another one: %v", i, l)
		}
	}
	splits(t, "abcdefgh", 3, piece(0, 3, "abc"), piece(1, 3, "def"), piece(2, 3, "gh"))
	splits(t, "", 3, piece(0, 1, ""))
}

func TestListsOfLacksAreTheCallers(t *testing.T) {
	j := New()
	var lists [][]int
	for _, at := range []int{5, 0, 3, 7} {
		takes(t, j, piece(at, 8, "a"))
		lists = append(lists, j.Lacks(), j.Lacks())
	}
	for i, l := range lists {
		scrawl(l, -1-i)
	}
	for i, l := range lists {
		if slices.ContainsFunc(l, func(at int) bool { return at != -1-i }) {
			t.Errorf("list %d shares memory with another one: %v", i, l)
		}
	}
	lacks(t, j, 1, 2, 4, 6)
	takes(t, j, piece(2, 8, "b"), piece(1, 8, "c"), piece(4, 8, "d"), piece(6, 8, "e"))
	whole(t, j, "acbadaea")
}

func TestAnswersStayAsTheyWere(t *testing.T) {
	j := New()
	takes(t, j, piece(1, 3, "b"))
	early := j.Lacks()
	takes(t, j, piece(0, 3, "a"))
	late := j.Lacks()
	takes(t, j, piece(2, 3, "c"))
	text, err := j.Text()
	again(t, j, piece(1, 3, "b"))
	refuses(t, j, api.ErrClash, piece(1, 3, "x"))
	if !slices.Equal(early, []int{0, 2}) || !slices.Equal(late, []int{2}) || text != "abc" || err != nil {
		t.Errorf("answers became %v, %v, %q, %v", early, late, text, err)
	}
}

func TestWhatIsSplitCanBeWrittenOver(t *testing.T) {
	l, err := Split("abcdefgh", 3)
	if err != nil {
		t.Fatal(err)
	}
	j := New()
	takes(t, j, l...)
	scrawl(l, piece(0, 1, "other"))
	whole(t, j, "abcdefgh")
	again(t, j, piece(0, 3, "abc"), piece(1, 3, "def"), piece(2, 3, "gh"))
}

// told is what P1 says of a Joiner in another way: all that was taken, in the order in which it came.
type told struct{ taken []api.Piece }

func (m *told) take(p api.Piece) (bool, api.Errno) {
	ahead := func(is func(q api.Piece) bool) bool { return slices.ContainsFunc(m.taken, is) }
	switch {
	case p.Of < 1, p.Of > 60, p.At < 0, p.At >= p.Of, len(p.Text) > 12:
		return false, api.ErrRange
	case ahead(func(q api.Piece) bool { return q.Of != p.Of }):
		return false, api.ErrShape
	case ahead(func(q api.Piece) bool { return q.At == p.At && q.Text != p.Text }):
		return false, api.ErrClash
	}
	is := !slices.Contains(m.taken, p)
	m.taken = append(m.taken, p)
	return is, api.OK
}

// look goes through all places, and looks for who was taken there.
func (m *told) look() (string, error, []int) {
	if len(m.taken) == 0 {
		return "", api.ErrNone, nil
	}
	var text string
	var lack []int
	for at := 0; at < m.taken[0].Of; at++ {
		i := slices.IndexFunc(m.taken, func(q api.Piece) bool { return q.At == at })
		if i < 0 {
			lack = append(lack, at)
			continue
		}
		text += m.taken[i].Text
	}
	if len(lack) > 0 {
		return "", api.ErrNone, lack
	}
	return text, nil, nil
}

// hold hands a new one a row of pieces, and holds each answer against told.
func hold(t *testing.T, row []api.Piece) {
	t.Helper()
	j, m := New(), &told{}
	for _, p := range row {
		want, errno := m.take(p)
		if got, err := j.Take(p); got != want || plain.Told(err) != errno {
			t.Fatalf("%#v: Take(%#v) = %v, %v, want %v, %v", row, p, got, err, want, errno)
		}
		text, none, lack := m.look()
		looks(t, j, text, none, lack)
	}
}

func TestEveryShortRow(t *testing.T) {
	kinds := []api.Piece{
		piece(0, 1, "a"), piece(0, 1, ""), piece(0, 2, "a"), piece(0, 2, "b"), piece(1, 2, "a"), piece(1, 2, ""),
		piece(0, 3, "a"), piece(1, 3, "c"), piece(2, 3, ""), piece(2, 2, "a"), piece(0, 3, long(13)),
	}
	var grow func(row []api.Piece)
	grow = func(row []api.Piece) {
		if len(row) == 5 {
			hold(t, row)
			return
		}
		for _, p := range kinds {
			grow(append(slices.Clone(row), p))
		}
	}
	grow(nil)
}

// dice are numbers that look thrown, and are the same each time.
type dice uint64

func (d *dice) below(n int) int {
	*d = *d*6364136223846793005 + 1442695040888963407
	return int(uint64(*d>>33) % uint64(n))
}

// throw makes a piece of so many; its Text hangs on its At, but for one now and then.
func (d *dice) throw(of int) api.Piece {
	at := d.below(of)
	p := piece(at, of, long(at + at%(api.MaxPiece+1))[at:])
	wrong := []int{math.MinInt, -1, 0, 1, of - 1, of, of + 1, api.MaxText, api.MaxText + 1, math.MaxInt}
	switch d.below(20) {
	case 0:
		p.At = wrong[d.below(len(wrong))]
	case 1:
		p.Of = wrong[d.below(len(wrong))]
	case 2:
		p.Text = long(d.below(api.MaxPiece + 3))
	}
	return p
}

func TestLongRows(t *testing.T) {
	d := dice(9)
	wholes := 0
	for range 1500 {
		of := d.below(api.MaxText) + 1
		if d.below(2) == 0 {
			of = d.below(8) + 1
		}
		var row []api.Piece
		for range 100 {
			row = append(row, d.throw(of))
		}
		hold(t, row)
		m := &told{}
		for _, p := range row {
			m.take(p)
		}
		if _, none, _ := m.look(); none == nil {
			wholes++
		}
	}
	if wholes < 100 {
		t.Errorf("of 1500 rows %d came to an end: too few", wholes)
	}
}
