package wire

import (
	"math"
	"slices"
	"strings"
	"testing"

	"mootbell/api"
	"mootbell/pieces"
	"mootbell/plain"
)

func piece(at, of int, text string) api.Piece { return api.Piece{At: at, Of: of, Text: text} }

// rows holds the bytes of a Row against what is asked for.
func rows(t *testing.T, want string, l ...api.Piece) {
	t.Helper()
	if got, err := Row(l); got != want || err != nil {
		t.Fatalf("Row(%#v) = %q, %v, want %q", l, got, err, want)
	}
}

// rowRefuses asks that an error is told, and no byte.
func rowRefuses(t *testing.T, want api.Errno, l ...api.Piece) {
	t.Helper()
	if got, err := Row(l); got != "" || plain.Told(err) != want {
		t.Fatalf("Row of %d, %#v, = %q, %v, want nothing, %v", len(l), l[:min(len(l), 61)], got, err, want)
	}
}

// long makes a text of so many bytes, of which no two that are near are alike.
func long(bytes int) string {
	var b strings.Builder
	for at := range bytes {
		b.WriteByte(byte(at*37 + 200))
	}
	return b.String()
}

// wrongPieces are such that may not be, by each fault alone and by several together.
func wrongPieces() []api.Piece {
	l := []api.Piece{
		piece(0, 1, long(13)), piece(59, 60, long(13)), piece(1, 3, strings.Repeat("é", 7)), piece(0, 2, long(255)),
		piece(0, 2, long(256)), piece(0, 2, long(268)), piece(0, 2, long(1000)), piece(-1, 0, long(13)), piece(3, 3, long(13)), {},
	}
	for _, of := range []int{math.MinInt, math.MinInt32, -256, -255, -60, -1, 0, 61, 62, 255, 256, 257, 1<<32 + 1, math.MaxInt} {
		l = append(l, piece(0, of, ""), piece(0, of, "a"), piece(1, of, "a"), piece(of-1, of, "a"), piece(0, of, long(13)))
	}
	for _, of := range []int{1, 2, 3, 59, 60} {
		for _, at := range []int{math.MinInt, math.MinInt32, -256, -255, -of, -1, of, of + 1, 255, 256, 1 << 32, math.MaxInt} {
			l = append(l, piece(at, of, ""), piece(at, of, "a"), piece(at, of, long(13)))
		}
	}
	return l
}

func TestRow(t *testing.T) {
	rows(t, "\x00\x03\x05heard\x01\x03\x05 by a\x02\x03\x02ll", piece(0, 3, "heard"), piece(1, 3, " by a"), piece(2, 3, "ll"))
	rows(t, "\x01\x02\x01b\x00\x02\x03abc", piece(1, 2, "b"), piece(0, 2, "abc"))
}

func TestRowOfNone(t *testing.T) {
	rows(t, "")
	for _, l := range [][]api.Piece{nil, {}, make([]api.Piece, 0, 70)} {
		if got, err := Row(l); got != "" || err != nil {
			t.Errorf("Row of none = %q, %v", got, err)
		}
	}
}

// TestRowOfOne: each Of, with each At, and each length of a Text.
func TestRowOfOne(t *testing.T) {
	for of := 1; of <= 60; of++ {
		for at := range of {
			for bytes := range 13 {
				text := long(at + bytes)[at:]
				rows(t, string([]byte{byte(at), byte(of), byte(bytes)})+text, piece(at, of, text))
			}
		}
		rowRefuses(t, api.ErrRange, piece(of, of, "a"))
		rowRefuses(t, api.ErrRange, piece(-1, of, "a"))
		rowRefuses(t, api.ErrRange, piece(of-1, of, long(13)))
	}
	rows(t, "\x00\x01\x00", piece(0, 1, ""))
	rows(t, "\x3b\x3c\x0cabcdefghijkl", piece(59, 60, "abcdefghijkl"))
}

// TestRowOfMany: each number of Pieces up to as many as may be, and more.
func TestRowOfMany(t *testing.T) {
	var l []api.Piece
	var want string
	for at := range 60 {
		text := long(at + at%13)[at:]
		l = append(l, piece(at, 60, text))
		want += string([]byte{byte(at), 60, byte(len(text))}) + text
		rows(t, want, l...)
	}
	for range 3 {
		l = append(l, piece(0, 1, ""))
		rowRefuses(t, api.ErrFull, l...)
	}
	rowRefuses(t, api.ErrFull, slices.Repeat([]api.Piece{piece(0, 1, "a")}, 61)...)
	rowRefuses(t, api.ErrFull, slices.Repeat([]api.Piece{piece(0, 1, "a")}, 256)...)
	rowRefuses(t, api.ErrFull, make([]api.Piece, 1_000_000)...)
	rows(t, strings.Repeat("\x00\x01\x01a", 60), slices.Repeat([]api.Piece{piece(0, 1, "a")}, 60)...)
	rows(t, strings.Repeat("\x3b\x3c\x0cabcdefghijkl", 60), slices.Repeat([]api.Piece{piece(59, 60, "abcdefghijkl")}, 60)...)
}

func TestRowOfTextsThatAreNoLetters(t *testing.T) {
	rows(t, "\x00\x02\x0c\x00\x80\xff\n ;-\xc3\xa9\xe2\x82\xac\x01\x02\x02\x7f\x00", piece(0, 2, "\x00\x80\xff\n ;-é€"), piece(1, 2, "\x7f\x00"))
	rows(t, "\x00\x01\x0c"+strings.Repeat("é", 6), piece(0, 1, strings.Repeat("é", 6)))
	rowRefuses(t, api.ErrRange, piece(0, 1, strings.Repeat("é", 7)))
	rowRefuses(t, api.ErrRange, piece(0, 1, strings.Repeat("\x00", 13)))
	for one := range 256 {
		b := []byte{byte(one)}
		rows(t, "\x02\x05\x01"+string(b)+"\x01\x05\x02"+string(b)+string(b), piece(2, 5, string(b)), piece(1, 5, string(b)+string(b)))
	}
}

// TestRowOfPiecesThatDoNotGoTogether: each is asked by itself, so that neither ErrShape nor ErrClash
// of a Joiner is told.
func TestRowOfPiecesThatDoNotGoTogether(t *testing.T) {
	rows(t, "\x00\x02\x01a\x00\x03\x01a\x00\x01\x01a", piece(0, 2, "a"), piece(0, 3, "a"), piece(0, 1, "a"))
	rows(t, "\x00\x02\x01a\x00\x02\x01b\x00\x02\x00", piece(0, 2, "a"), piece(0, 2, "b"), piece(0, 2, ""))
	rows(t, "\x01\x02\x01a\x01\x02\x01a", piece(1, 2, "a"), piece(1, 2, "a"))
	rows(t, "\x02\x03\x00\x3b\x3c\x02bc\x00\x01\x00", piece(2, 3, ""), piece(59, 60, "bc"), piece(0, 1, ""))
}

func TestRowOutOfRange(t *testing.T) {
	good := piece(1, 3, "b")
	for _, wrong := range wrongPieces() {
		rowRefuses(t, api.ErrRange, wrong)
		rowRefuses(t, api.ErrRange, wrong, good)
		rowRefuses(t, api.ErrRange, good, wrong)
		rowRefuses(t, api.ErrRange, good, wrong, good)
		rowRefuses(t, api.ErrRange, wrong, wrong)
		// Also as the last one of as many as may be.
		rowRefuses(t, api.ErrRange, append(slices.Repeat([]api.Piece{good}, 59), wrong)...)
		// That there are too many is told ahead of it, wherever it is.
		rowRefuses(t, api.ErrFull, append(slices.Repeat([]api.Piece{good}, 60), wrong)...)
		rowRefuses(t, api.ErrFull, append([]api.Piece{wrong}, slices.Repeat([]api.Piece{good}, 60)...)...)
		rowRefuses(t, api.ErrFull, slices.Repeat([]api.Piece{wrong}, 61)...)
	}
	rows(t, "\x01\x03\x01b", good)
}

// TestRowOfWhatWasSplit: each text by each size goes as a Row, and is read from its bytes again.
func TestRowOfWhatWasSplit(t *testing.T) {
	for bytes := 0; bytes <= api.MaxText; bytes++ {
		for size := 1; size <= api.MaxPiece; size++ {
			l, err := pieces.Split(long(bytes), size)
			if err != nil {
				t.Fatal(err)
			}
			b, err := Row(l)
			if err != nil {
				t.Fatalf("Row(%#v) told %v", l, err)
			}
			var read []api.Piece
			for b != "" {
				text := b[3 : 3+int(b[2])]
				read = append(read, piece(int(b[0]), int(b[1]), text))
				b = b[3+len(text):]
			}
			if !slices.Equal(read, l) {
				t.Fatalf("Row(%#v) is read as %#v", l, read)
			}
		}
	}
}

func TestRowLeavesItsListAsItIs(t *testing.T) {
	l, whole := roomy(piece(9, 9, "behind"), piece(0, 2, "first"), piece(1, 2, "last"))
	wrong, wholeWrong := roomy(piece(0, 1, "behind"), piece(0, 2, "first"), piece(2, 2, "none"))
	was, wasWrong := slices.Clone(whole), slices.Clone(wholeWrong)
	b, err := Row(l)
	if b != "\x00\x02\x05first\x01\x02\x04last" || err != nil {
		t.Errorf("Row = %q, %v", b, err)
	}
	rowRefuses(t, api.ErrRange, wrong...)
	rowRefuses(t, api.ErrFull, make([]api.Piece, 61)...)
	if !slices.Equal(whole, was) || !slices.Equal(wholeWrong, wasWrong) {
		t.Errorf("lists became %#v and %#v, were %#v and %#v", whole, wholeWrong, was, wasWrong)
	}
	// What is a Row stays, whatever becomes of the list.
	kept := []byte(b)
	scrawl(l, piece(0, 1, "other"))
	if b != string(kept) {
		t.Errorf("bytes became %q, were %q", b, kept)
	}
	rows(t, "\x00\x01\x05other\x00\x01\x05other", l...)
	scrawl(l, piece(1, 1, "other"))
	rowRefuses(t, api.ErrRange, l...)
}

// TestRowsAskedAgain: a Row hangs on no Row ahead of it, also on none that was refused.
func TestRowsAskedAgain(t *testing.T) {
	for range 3 {
		rows(t, "\x00\x02\x01a", piece(0, 2, "a"))
		rowRefuses(t, api.ErrRange, piece(0, 2, "a"), piece(2, 2, "a"))
		rows(t, "\x00\x02\x01b", piece(0, 2, "b"))
		rowRefuses(t, api.ErrFull, slices.Repeat([]api.Piece{piece(0, 2, "a")}, 61)...)
		rows(t, "")
	}
}
