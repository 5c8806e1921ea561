package wire

import (
	"math"
	"reflect"
	"slices"
	"testing"

	"mootbell/api"
	"mootbell/cause"
	"mootbell/plain"
)

const most = api.MaxCount

func said(who, word int, clock ...int) api.Said {
	return api.Said{Who: who, Word: word, Clock: clock}
}

// packs holds the bytes of a word against what is asked for, and what these bytes say against the word.
func packs(t *testing.T, s api.Said, want ...byte) {
	t.Helper()
	if got, err := Pack(s); got != string(want) || err != nil {
		t.Fatalf("Pack(%v) = %v, %v, want %v", s, []byte(got), err, want)
	}
	if got, err := Unpack(string(want)); !reflect.DeepEqual(got, s) || err != nil {
		t.Fatalf("Unpack(%v) = %v, %v, want %v", want, got, err, s)
	}
}

// packRefuses asks that an error is told, and no byte.
func packRefuses(t *testing.T, s api.Said, want api.Errno) {
	t.Helper()
	if got, err := Pack(s); got != "" || plain.Told(err) != want {
		t.Fatalf("Pack(%v) = %v, %v, want nothing, %v", s, []byte(got), err, want)
	}
}

// unpackRefuses asks that ErrSyntax is told, and nothing else.
func unpackRefuses(t *testing.T, b string) {
	t.Helper()
	got, err := Unpack(b)
	if got.Who != 0 || got.Word != 0 || got.Clock != nil || plain.Told(err) != api.ErrSyntax {
		t.Fatalf("Unpack(%v) = %v, %v, want nothing, ErrSyntax", []byte(b), got, err)
	}
}

// summed are bytes, and one more that makes their sum right.
func summed(b ...byte) string {
	all := 0
	for _, one := range b {
		all += int(one)
	}
	return string(append(slices.Clone(b), byte(all%256)))
}

// told writes the bytes of a word in another way: by division, and each number into its places.
func told(s api.Said) string {
	b := make([]byte, 17)
	b[0], b[1] = byte(s.Who), byte(s.Word)
	for who, n := range s.Clock {
		for at := 4 + 3*who; at > 1+3*who; at-- {
			b[at] = byte(n % 256)
			n /= 256
		}
	}
	return summed(b...)
}

// noWho, noWord and noNumber are none that may be; some of them would be one that may be, if they
// were cut to a byte, or to three, unseen.
func noWho() []int {
	return []int{math.MinInt, math.MinInt32, -256, -252, -5, -1, 5, 6, 255, 256, 257, 260, 1 << 32, math.MaxInt}
}

func noWord() []int {
	return []int{math.MinInt, math.MinInt32, -256, -255, -1, 0, 31, 32, 60, 255, 256, 257, 286, 1<<32 + 1, math.MaxInt}
}

func noNumber() []int {
	return []int{math.MinInt, math.MinInt32, -1 << 24, -1, most + 1, most + 2, 1 << 20, 1<<24 - 1, 1 << 24, 1<<24 + 1, 1 << 32, math.MaxInt}
}

// noClock are clocks of too few numbers, and of too many.
func noClock() [][]int {
	return [][]int{nil, {}, {0}, {1, 2, 3, 4}, {1, 2, 3, 4, 5, 6}, {-1, 2, 3, 4}, {1, 2, 3, 4, 5, most + 1}, make([]int, 1_000_000)}
}

func TestPack(t *testing.T) {
	packs(t, said(3, 27, 3, 2, 1, 2, 3), 3, 27, 0, 0, 3, 0, 0, 2, 0, 0, 1, 0, 0, 2, 0, 0, 3, 41)
	packs(t, said(1, 7, 70_000, 0, 258, 5, 1_000), 1, 7, 1, 17, 112, 0, 0, 0, 0, 1, 2, 0, 0, 5, 0, 3, 232, 125)
	packs(t, said(0, 1, 0, 0, 0, 0, 0), 0, 1, 0, 0, 0, 0, 0, 0, 0, 0, 0, 0, 0, 0, 0, 0, 0, 1)
	packs(t, said(4, 30, most, most, most, most, most), 4, 30, 15, 66, 64, 15, 66, 64, 15, 66, 64, 15, 66, 64, 15, 66, 64, 247)
	// Each number differs, so that none stands in the place of another one.
	packs(t, said(2, 13, 0x010203, 0x040506, 0x070809, 0x0a0b0c, 0x0d0e0f), 2, 13, 1, 2, 3, 4, 5, 6, 7, 8, 9, 10, 11, 12, 13, 14, 15, 135)
}

func TestWhoAndWord(t *testing.T) {
	for who := range 5 {
		for word := 1; word <= 30; word++ {
			packs(t, said(who, word, 0, 0, 0, 0, 0), []byte(summed(byte(who), byte(word), 0, 0, 0, 0, 0, 0, 0, 0, 0, 0, 0, 0, 0, 0, 0))...)
			packs(t, said(who, word, 9, 8, 7, 6, 5), []byte(summed(byte(who), byte(word), 0, 0, 9, 0, 0, 8, 0, 0, 7, 0, 0, 6, 0, 0, 5))...)
		}
	}
}

// TestNumbers: the edges of a number, at each place, alone and beside others.
func TestNumbers(t *testing.T) {
	for _, c := range []struct {
		n int
		b [3]byte
	}{
		{0, [3]byte{0, 0, 0}},
		{1, [3]byte{0, 0, 1}},
		{255, [3]byte{0, 0, 255}},
		{256, [3]byte{0, 1, 0}},
		{257, [3]byte{0, 1, 1}},
		{65_535, [3]byte{0, 255, 255}},
		{65_536, [3]byte{1, 0, 0}},
		{65_537, [3]byte{1, 0, 1}},
		{983_039, [3]byte{14, 255, 255}},
		{most - 1, [3]byte{15, 66, 63}},
		{most, [3]byte{15, 66, 64}},
	} {
		for at := range 5 {
			for _, beside := range []byte{0, 1, 255} {
				clock := []int{int(beside), int(beside), int(beside), int(beside), int(beside)}
				b := []byte{3, 8, 0, 0, beside, 0, 0, beside, 0, 0, beside, 0, 0, beside, 0, 0, beside}
				clock[at] = c.n
				copy(b[2+3*at:], c.b[:])
				packs(t, said(3, 8, clock...), []byte(summed(b...))...)
			}
		}
	}
}

// TestSum: of just 256, one below and one above, and far above, to the greatest there can be.
func TestSum(t *testing.T) {
	for _, c := range []struct {
		s    api.Said
		last byte
	}{
		{said(0, 1, 253, 0, 0, 0, 0), 254},
		{said(0, 1, 254, 0, 0, 0, 0), 255},
		{said(0, 1, 255, 0, 0, 0, 0), 0},
		{said(0, 1, 255, 0, 0, 0, 1), 1},
		{said(4, 30, 0, 0, 0, 0, 221), 255},
		{said(4, 30, 0, 0, 0, 0, 222), 0},
		{said(4, 30, 0, 0, 0, 0, 223), 1},
		{said(1, 2, 65_535, 0, 0, 0, 0), 1},
		{said(1, 1, 65_535, 0, 0, 0, 0), 0},
		{said(0, 1, 65_535, 0, 0, 0, 0), 255},
		{said(2, 3, 65_535, 65_535, 65_535, 65_535, 65_535), 251},
		{said(4, 30, 983_039, 983_039, 983_039, 983_039, 983_039), 94},
	} {
		packs(t, c.s, []byte(told(c.s))...)
		if b, _ := Pack(c.s); b[len(b)-1] != c.last {
			t.Errorf("the sum of %v is %d, want %d", c.s, b[len(b)-1], c.last)
		}
	}
	for n := range 65_536 {
		s := said(n%5, n%30+1, n, 0, 0, 0, 65_535-n)
		packs(t, s, []byte(told(s))...)
	}
}

func TestPackOutOfRange(t *testing.T) {
	for _, who := range noWho() {
		for _, word := range append(noWord(), 1, 30) {
			packRefuses(t, said(who, word, 1, 2, 3, 4, 5), api.ErrRange)
		}
	}
	for _, word := range noWord() {
		for _, who := range []int{0, 2, 4} {
			packRefuses(t, said(who, word, 1, 2, 3, 4, 5), api.ErrRange)
		}
	}
}

func TestPackOfAWrongClock(t *testing.T) {
	for _, who := range []int{0, 4} {
		for _, word := range []int{1, 30} {
			for _, clock := range noClock() {
				packRefuses(t, said(who, word, clock...), api.ErrShape)
			}
			for _, n := range noNumber() {
				for at := range 5 {
					clock := []int{1, 2, most, 0, 5}
					clock[at] = n
					packRefuses(t, said(who, word, clock...), api.ErrRange)
				}
				packRefuses(t, said(who, word, n, n, n, n, n), api.ErrRange)
				packRefuses(t, said(who, word, n, n, n, n), api.ErrShape)
				packRefuses(t, said(who, word, n, n, n, n, n, n), api.ErrShape)
			}
		}
	}
}

// TestPackTellsTheFirst: Who and Word are told ahead of the Clock.
func TestPackTellsTheFirst(t *testing.T) {
	for _, clock := range append(noClock(), []int{-1, 0, 0, 0, 0}, []int{0, 0, 0, 0, most + 1}) {
		for _, who := range noWho() {
			packRefuses(t, said(who, 7, clock...), api.ErrRange)
			packRefuses(t, said(who, 0, clock...), api.ErrRange)
		}
		for _, word := range noWord() {
			packRefuses(t, said(2, word, clock...), api.ErrRange)
		}
	}
	packRefuses(t, api.Said{}, api.ErrRange)
	packRefuses(t, api.Said{Word: 1}, api.ErrShape)
}

// some words, the edges among them.
func some() []api.Said {
	return []api.Said{
		said(3, 27, 3, 2, 1, 2, 3),
		said(0, 1, 0, 0, 0, 0, 0),
		said(4, 30, most, most, most, most, most),
		said(0, 30, most, 0, 0, 0, 0),
		said(4, 1, 0, 0, 0, 0, most),
		said(1, 16, 255, 256, 65_535, 65_536, 0),
		said(2, 2, 65_535, 65_535, 65_535, 65_535, 65_535),
		said(0, 1, 255, 0, 0, 0, 0),
	}
}

func TestUnpackOfAnotherLength(t *testing.T) {
	for _, s := range some() {
		b := told(s)
		for length := range len(b) {
			unpackRefuses(t, b[:length])
			unpackRefuses(t, b[length+1:])
		}
		// With fewer, and with one more in between, of which the sum is right.
		for length := range 17 {
			unpackRefuses(t, summed([]byte(b[:length])...))
			unpackRefuses(t, summed([]byte(b[length+1:17])...))
			unpackRefuses(t, summed([]byte(b[:length]+"\x00"+b[length:17])...))
		}
		for _, more := range []string{"\x00", "\x01", b[17:], "\x00\x00\x00", b, b + b} {
			unpackRefuses(t, b+more)
			unpackRefuses(t, more+b)
			unpackRefuses(t, summed([]byte(b[:17]+more)...))
		}
	}
	unpackRefuses(t, "")
	for length := range 70 {
		unpackRefuses(t, string(make([]byte, length)))
		if length != 15 {
			unpackRefuses(t, summed(append([]byte{1, 1}, make([]byte, length)...)...))
		}
	}
	// As of four members, and of six.
	unpackRefuses(t, summed(1, 1, 0, 0, 1, 0, 0, 1, 0, 0, 1, 0, 0, 1))
	unpackRefuses(t, summed(1, 1, 0, 0, 1, 0, 0, 1, 0, 0, 1, 0, 0, 1, 0, 0, 1, 0, 0, 1))
	unpackRefuses(t, string(make([]byte, 1<<20)))
}

// TestUnpackOfAnotherByte: each byte is each other one, by which the sum is wrong.
func TestUnpackOfAnotherByte(t *testing.T) {
	for _, s := range some() {
		right := told(s)
		for at := range len(right) {
			for by := 1; by < 256; by++ {
				b := []byte(right)
				b[at] += byte(by)
				unpackRefuses(t, string(b))
			}
		}
		packs(t, s, []byte(right)...)
	}
}

// TestUnpackOfAWrongOneWithARightSum: a byte is another one, and the sum is right again: it is told
// whether the word that they say may be.
func TestUnpackOfAWrongOneWithARightSum(t *testing.T) {
	for _, s := range some() {
		for other := range 256 {
			b := []byte(told(s))
			b[0] = byte(other)
			if is := said(other, s.Word, s.Clock...); other < 5 {
				packs(t, is, []byte(summed(b[:17]...))...)
			} else {
				unpackRefuses(t, summed(b[:17]...))
			}
			b = []byte(told(s))
			b[1] = byte(other)
			if is := said(s.Who, other, s.Clock...); other > 0 && other <= 30 {
				packs(t, is, []byte(summed(b[:17]...))...)
			} else {
				unpackRefuses(t, summed(b[:17]...))
			}
		}
	}
}

func TestUnpackOfAWrongNumberWithARightSum(t *testing.T) {
	for _, n := range []int{most + 1, most + 2, 15<<16 + 66<<8 + 255, 15<<16 + 67<<8, 1 << 20, 1 << 23, 1<<24 - 2, 1<<24 - 1} {
		for at := range 5 {
			clock := []int{3, 2, most, 0, 255}
			clock[at] = n
			unpackRefuses(t, told(said(2, 7, clock...)))
			// What else is wrong makes no other error.
			unpackRefuses(t, told(said(5, 7, clock...)))
			unpackRefuses(t, told(said(2, 0, clock...)))
			unpackRefuses(t, told(said(2, 7, clock...))+"\x00")
		}
		unpackRefuses(t, told(said(2, 7, n, n, n, n, n)))
	}
	unpackRefuses(t, string(make([]byte, 18)))
	unpackRefuses(t, summed(255, 255, 255, 255, 255, 255, 255, 255, 255, 255, 255, 255, 255, 255, 255, 255, 255))
}

// TestUnpackOfBytesThatChangedPlaces: the sum does not tell of it, so that another word is read.
func TestUnpackOfBytesThatChangedPlaces(t *testing.T) {
	packs(t, said(1, 3, 2, 256, 0, 0, 0), 1, 3, 0, 0, 2, 0, 1, 0, 0, 0, 0, 0, 0, 0, 0, 0, 0, 7)
	packs(t, said(3, 1, 2, 256, 0, 0, 0), 3, 1, 0, 0, 2, 0, 1, 0, 0, 0, 0, 0, 0, 0, 0, 0, 0, 7)
	packs(t, said(1, 3, 512, 256, 0, 0, 0), 1, 3, 0, 2, 0, 0, 1, 0, 0, 0, 0, 0, 0, 0, 0, 0, 0, 7)
	packs(t, said(1, 3, 0, 256, 0, 0, 2), 1, 3, 0, 0, 0, 0, 1, 0, 0, 0, 0, 0, 0, 0, 0, 0, 2, 7)
	// The sum itself is no other byte.
	unpackRefuses(t, "\x07\x03\x00\x00\x02\x00\x01\x00\x00\x00\x00\x00\x00\x00\x00\x00\x00\x01")
}

// dice are numbers that look thrown, and are the same each time.
type dice uint64

func (d *dice) below(n int) int {
	*d = *d*6364136223846793005 + 1442695040888963407
	return int(uint64(*d>>33) % uint64(n))
}

// throw makes a word; a number of its Clock is often one at an edge.
func (d *dice) throw() api.Said {
	edges := []int{0, 1, 255, 256, 257, 65_535, 65_536, 65_537, most - 1, most}
	s := said(d.below(5), d.below(30)+1)
	for range 5 {
		n := d.below(most + 1)
		if d.below(2) == 0 {
			n = edges[d.below(len(edges))]
		}
		s.Clock = append(s.Clock, n)
	}
	return s
}

func TestThrownWords(t *testing.T) {
	d := dice(18)
	for range 200_000 {
		s := d.throw()
		packs(t, s, []byte(told(s))...)
	}
}

// mayBe tells of 18 bytes in another way whether they are as Pack makes them.
func mayBe(b []byte) bool {
	all := 0
	for _, one := range b[:17] {
		all += int(one)
	}
	may := b[0] < 5 && b[1] > 0 && b[1] < 31 && all%256 == int(b[17])
	for at := 2; at < 17; at += 3 {
		high, low := b[at], int(b[at+1])*256+int(b[at+2])
		may = may && (high < 15 || high == 15 && low <= 16_960)
	}
	return may
}

// TestThrownBytes: bytes that are nearly such as Pack makes are either told by ErrSyntax, or what
// they say is packed as just these bytes.
func TestThrownBytes(t *testing.T) {
	d := dice(81)
	good := 0
	for range 200_000 {
		b := []byte(told(d.throw()))
		for range d.below(3) {
			b[d.below(17)] = byte([]int{0, 1, 4, 5, 14, 15, 16, 30, 31, 64, 65, 66, 67, 255}[d.below(14)])
		}
		if d.below(3) > 0 {
			b = []byte(summed(b[:17]...))
		}
		if !mayBe(b) {
			unpackRefuses(t, string(b))
			continue
		}
		good++
		s, err := Unpack(string(b))
		if err != nil {
			t.Fatalf("Unpack(%v) told %v", b, err)
		}
		packs(t, s, b...)
	}
	if good < 20_000 || good > 180_000 {
		t.Errorf("of 200000 bytes %d may be: too few, or too many", good)
	}
}

// roomy is a list with memory behind its length, and all of that memory.
func roomy[T any](behind T, l ...T) ([]T, []T) {
	whole := append(slices.Clone(l), behind, behind, behind)
	return whole[:len(l)], whole
}

// scrawl writes into a list, and what lies behind it in its memory.
func scrawl[T any](l []T, with T) {
	l = l[:cap(l)]
	for at := range l {
		l[at] = with
	}
}

func TestPackLeavesItsClockAsItIs(t *testing.T) {
	clock, whole := roomy(-7, 70_000, 2, most, 4, 5)
	short, wholeShort := roomy(5, 1, 2, 3, 4)
	was, wasShort := slices.Clone(whole), slices.Clone(wholeShort)
	b, err := Pack(api.Said{Who: 1, Word: 2, Clock: clock})
	if want := told(said(1, 2, 70_000, 2, most, 4, 5)); b != want || err != nil {
		t.Errorf("Pack = %v, %v, want %v", []byte(b), err, []byte(want))
	}
	packRefuses(t, api.Said{Who: 1, Word: 2, Clock: short}, api.ErrShape)
	packRefuses(t, api.Said{Who: 5, Word: 2, Clock: clock}, api.ErrRange)
	if !slices.Equal(whole, was) || !slices.Equal(wholeShort, wasShort) {
		t.Errorf("clocks became %v and %v, were %v and %v", whole, wholeShort, was, wasShort)
	}
	// What was packed stays, whatever becomes of the list.
	kept := []byte(b)
	scrawl(clock, -5)
	if b != string(kept) {
		t.Errorf("bytes became %v, were %v", []byte(b), kept)
	}
	packRefuses(t, api.Said{Who: 1, Word: 2, Clock: clock}, api.ErrRange)
	scrawl(clock, 6)
	packs(t, api.Said{Who: 1, Word: 2, Clock: clock}, []byte(told(said(1, 2, 6, 6, 6, 6, 6)))...)
}

func TestWhatIsUnpackedIsTheCallers(t *testing.T) {
	var all []api.Said
	for _, s := range append(some(), some()...) {
		got, err := Unpack(told(s))
		if err != nil {
			t.Fatal(err)
		}
		all = append(all, got)
	}
	for i, s := range all {
		scrawl(s.Clock, -1-i)
	}
	for i, s := range all {
		if slices.ContainsFunc(s.Clock, func(n int) bool { return n != -1-i }) {
			t.Errorf("clock %d shares memory with another one: %v", i, s.Clock)
		}
	}
	for _, s := range some() {
		packs(t, s, []byte(told(s))...)
	}
}

// TestUnpackKeepsNothing: a caller who writes over the memory in which bytes came reads others then.
func TestUnpackKeepsNothing(t *testing.T) {
	memory := []byte(told(said(1, 2, 3, 4, 5, 6, 7)))
	first, err := Unpack(string(memory))
	copy(memory, told(said(4, 30, most, 0, most, 0, most)))
	second, bad := Unpack(string(memory))
	scrawl(memory, 255)
	unpackRefuses(t, string(memory))
	if !reflect.DeepEqual(first, said(1, 2, 3, 4, 5, 6, 7)) || err != nil {
		t.Errorf("the first became %v, %v", first, err)
	}
	if !reflect.DeepEqual(second, said(4, 30, most, 0, most, 0, most)) || bad != nil {
		t.Errorf("the second became %v, %v", second, bad)
	}
}

// asBytes hands on what was said as bytes.
func asBytes(t *testing.T, s api.Said) api.Said {
	t.Helper()
	b, err := Pack(s)
	if err != nil {
		t.Fatal(err)
	}
	got, err := Unpack(b)
	if err != nil {
		t.Fatal(err)
	}
	return got
}

// TestWordsGoAsBytes: a group hears by cause what goes as bytes, as if it went as it was said.
func TestWordsGoAsBytes(t *testing.T) {
	var group []*cause.Cause
	for who := range 3 {
		c, err := cause.New(who)
		if err != nil {
			t.Fatal(err)
		}
		group = append(group, c)
	}
	question, _ := group[0].Say(7)
	if heard, err := group[1].Take(asBytes(t, question)); !slices.Equal(heard, []int{7}) || err != nil {
		t.Fatalf("member 1 heard %v, %v", heard, err)
	}
	answer, _ := group[1].Say(8)
	if heard, err := group[2].Take(asBytes(t, answer)); len(heard) != 0 || err != nil {
		t.Fatalf("member 2 heard %v, %v ahead of the question", heard, err)
	}
	if heard, err := group[2].Take(asBytes(t, question)); !slices.Equal(heard, []int{7, 8}) || err != nil {
		t.Fatalf("member 2 heard %v, %v", heard, err)
	}
}
