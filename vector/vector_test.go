package vector

import (
	"math"
	"slices"
	"testing"

	"mootbell/api"
	"mootbell/plain"
)

const most = api.MaxCount

// faulty vectors, and what Check says of each: where both apply, ErrShape is named first.
var faulty = []struct {
	v    []int
	want api.Errno
}{
	{nil, api.ErrShape},
	{[]int{}, api.ErrShape},
	{[]int{0}, api.ErrShape},
	{[]int{1, 2, 3, 4}, api.ErrShape},
	{[]int{1, 2, 3, 4, 5, 6}, api.ErrShape},
	{[]int{-1, 2, 3, 4}, api.ErrShape},
	{[]int{1, 2, 3, 4, 5, most + 1}, api.ErrShape},
	{make([]int, 1_000_000), api.ErrShape},
	{[]int{-1, 0, 0, 0, 0}, api.ErrRange},
	{[]int{0, 0, -1, 0, 0}, api.ErrRange},
	{[]int{0, 0, 0, 0, -1}, api.ErrRange},
	{[]int{most + 1, 0, 0, 0, 0}, api.ErrRange},
	{[]int{0, 0, most + 1, 0, 0}, api.ErrRange},
	{[]int{0, 0, 0, 0, most + 1}, api.ErrRange},
	{[]int{math.MinInt, 0, 0, 0, 0}, api.ErrRange},
	{[]int{0, 0, 0, 0, math.MaxInt}, api.ErrRange},
}

// sound vectors, the edges among them.
var sound = [][]int{
	{0, 0, 0, 0, 0},
	{1, 2, 3, 4, 5},
	{5, 4, 3, 2, 1},
	{most, 0, 0, 0, 0},
	{0, 0, 0, 0, most},
	{most, most, most, most, most},
	{most - 1, 1, most, 0, 7},
}

func TestCheck(t *testing.T) {
	for _, v := range sound {
		if err := Check(v); err != nil {
			t.Errorf("Check(%v) = %v, want nil", v, err)
		}
	}
	for i, f := range faulty {
		if got := plain.Told(Check(f.v)); got != f.want {
			t.Errorf("faulty %d: Check = %v, want %v", i, got, f.want)
		}
	}
}

func TestTwo(t *testing.T) {
	for i, c := range []struct {
		a, b, join []int
		leq, apart bool
	}{
		{[]int{0, 0, 0, 0, 0}, []int{0, 0, 0, 0, 0}, []int{0, 0, 0, 0, 0}, true, false},
		{[]int{1, 2, 3, 4, 5}, []int{1, 2, 3, 4, 5}, []int{1, 2, 3, 4, 5}, true, false},
		{[]int{0, 2, 3, 4, 5}, []int{1, 2, 3, 4, 5}, []int{1, 2, 3, 4, 5}, true, false},
		{[]int{1, 2, 3, 4, 5}, []int{1, 2, 3, 4, 4}, []int{1, 2, 3, 4, 5}, false, false},
		{[]int{1, 0, 0, 0, 0}, []int{0, 0, 0, 0, 1}, []int{1, 0, 0, 0, 1}, false, true},
		{[]int{0, 0, 9, 0, 0}, []int{8, 8, 8, 8, 8}, []int{8, 8, 9, 8, 8}, false, true},
		{[]int{0, 0, 0, 0, 0}, []int{most, most, most, most, most}, []int{most, most, most, most, most}, true, false},
		{[]int{most, 0, 0, 0, most - 1}, []int{most - 1, 0, 0, 0, most}, []int{most, 0, 0, 0, most}, false, true},
	} {
		join, err := Join(c.a, c.b)
		if err != nil || !slices.Equal(join, c.join) {
			t.Errorf("case %d: Join(%v, %v) = %v, %v, want %v", i, c.a, c.b, join, err, c.join)
		}
		if leq, err := Leq(c.a, c.b); err != nil || leq != c.leq {
			t.Errorf("case %d: Leq(%v, %v) = %v, %v, want %v", i, c.a, c.b, leq, err, c.leq)
		}
		if apart, err := Apart(c.a, c.b); err != nil || apart != c.apart {
			t.Errorf("case %d: Apart(%v, %v) = %v, %v, want %v", i, c.a, c.b, apart, err, c.apart)
		}
	}
}

// small makes every vector of numbers below 3.
func small() [][]int {
	all := [][]int{{}}
	for range api.Members {
		var longer [][]int
		for _, v := range all {
			for n := range 3 {
				longer = append(longer, append(slices.Clone(v), n))
			}
		}
		all = longer
	}
	return all
}

// TestTwoOfAllSmall counts places instead of asking for any, so that it does not repeat the code's own way.
func TestTwoOfAllSmall(t *testing.T) {
	vectors := small()
	for _, a := range vectors {
		for _, b := range vectors {
			above, below := 0, 0
			want := slices.Clone(a)
			for i := range a {
				if a[i] > b[i] {
					above++
				} else if a[i] < b[i] {
					below++
					want[i] = b[i]
				}
			}
			join, err := Join(a, b)
			leq, bad := Leq(a, b)
			apart, ill := Apart(a, b)
			if err != nil || bad != nil || ill != nil {
				t.Fatalf("%v, %v: errors %v, %v, %v", a, b, err, bad, ill)
			}
			if !slices.Equal(join, want) || leq != (above == 0) || apart != (above > 0 && below > 0) {
				t.Fatalf("%v, %v: Join %v, Leq %v, Apart %v", a, b, join, leq, apart)
			}
		}
	}
}

// tellsBoth asks that all calls on two vectors tell the error, and nothing else.
func tellsBoth(t *testing.T, a, b []int, want api.Errno) {
	t.Helper()
	if join, err := Join(a, b); plain.Told(err) != want || join != nil {
		t.Errorf("Join = %v, %v, want nil, %v", join, err, want)
	}
	if leq, err := Leq(a, b); plain.Told(err) != want || leq {
		t.Errorf("Leq = %v, %v, want false, %v", leq, err, want)
	}
	if apart, err := Apart(a, b); plain.Told(err) != want || apart {
		t.Errorf("Apart = %v, %v, want false, %v", apart, err, want)
	}
}

func TestTwoWithFaults(t *testing.T) {
	for _, f := range faulty {
		for _, v := range sound {
			tellsBoth(t, f.v, v, f.want)
			tellsBoth(t, v, f.v, f.want)
		}
		for _, g := range faulty {
			tellsBoth(t, f.v, g.v, f.want)
		}
	}
}

func TestStep(t *testing.T) {
	for _, v := range sound {
		for who := range api.Members {
			got, err := Step(v, who)
			if v[who] == most {
				if plain.Told(err) != api.ErrFull || got != nil {
					t.Errorf("Step(%v, %d) = %v, %v, want nil, ErrFull", v, who, got, err)
				}
				continue
			}
			want := slices.Clone(v)
			want[who]++
			if err != nil || !slices.Equal(got, want) {
				t.Errorf("Step(%v, %d) = %v, %v, want %v", v, who, got, err, want)
			}
		}
	}
}

func TestStepWithFaults(t *testing.T) {
	strangers := []int{math.MinInt, -1, api.Members, api.Members + 1, math.MaxInt}
	for _, who := range strangers {
		for _, v := range sound {
			if got, err := Step(v, who); plain.Told(err) != api.ErrRange || got != nil {
				t.Errorf("Step(%v, %d) = %v, %v, want nil, ErrRange", v, who, got, err)
			}
		}
	}
	for _, who := range append(strangers, 0, api.Members-1) {
		for i, f := range faulty {
			if got, err := Step(f.v, who); plain.Told(err) != f.want || got != nil {
				t.Errorf("faulty %d: Step at %d = %v, %v, want nil, %v", i, who, got, err, f.want)
			}
		}
	}
	full := []int{most, -1, 0, 0, 0}
	if got, err := Step(full, 0); plain.Told(err) != api.ErrRange || got != nil {
		t.Errorf("Step(%v, 0) = %v, %v, want nil, ErrRange", full, got, err)
	}
}

// roomy is a vector with memory behind its length, and all of that memory.
func roomy(v ...int) ([]int, []int) {
	whole := append(slices.Clone(v), 77, -77, 777)
	return whole[:len(v)], whole
}

func TestArgumentsStayAsTheyAre(t *testing.T) {
	a, wholeA := roomy(1, 5, 2, 0, 3)
	b, wholeB := roomy(4, 0, 2, 9, 1)
	wasA, wasB := slices.Clone(wholeA), slices.Clone(wholeB)
	join, err := Join(a, b)
	leq, bad := Leq(a, b)
	apart, ill := Apart(a, b)
	step, no := Step(a, 4)
	if err != nil || bad != nil || ill != nil || no != nil || Check(a) != nil {
		t.Fatalf("errors %v, %v, %v, %v, %v", err, bad, ill, no, Check(a))
	}
	if !slices.Equal(join, []int{4, 5, 2, 9, 3}) || leq || !apart || !slices.Equal(step, []int{1, 5, 2, 0, 4}) {
		t.Errorf("Join %v, Leq %v, Apart %v, Step %v", join, leq, apart, step)
	}
	if !slices.Equal(wholeA, wasA) || !slices.Equal(wholeB, wasB) {
		t.Errorf("arguments became %v and %v, were %v and %v", wholeA, wholeB, wasA, wasB)
	}
}

// spoil writes into all memory of a list, that behind its length too.
func spoil(v []int) {
	v = v[:cap(v)]
	for i := range v {
		v[i] = -5
	}
}

func TestAnswersAreFresh(t *testing.T) {
	a, wholeA := roomy(1, 5, 2, 0, 3)
	was := slices.Clone(wholeA)
	for _, ask := range []func() ([]int, error){
		func() ([]int, error) { return Join(a, a) },
		func() ([]int, error) { return Join(a, make([]int, api.Members)) },
		func() ([]int, error) { return Join(make([]int, api.Members), a) },
		func() ([]int, error) { return Step(a, 0) },
	} {
		first, err := ask()
		second, bad := ask()
		if err != nil || bad != nil || !slices.Equal(first, second) {
			t.Fatalf("asked twice: %v, %v and %v, %v", first, err, second, bad)
		}
		kept := slices.Clone(second)
		spoil(first)
		if !slices.Equal(wholeA, was) {
			t.Fatalf("writing into the answer changed the argument to %v", wholeA)
		}
		if !slices.Equal(second, kept) {
			t.Errorf("writing into one answer changed another to %v", second)
		}
		if third, _ := ask(); !slices.Equal(third, kept) {
			t.Errorf("writing into an answer changed a later one to %v", third)
		}
	}
	join, _ := Join(a, a)
	step, _ := Step(a, 0)
	spoil(a)
	if !slices.Equal(join, []int{1, 5, 2, 0, 3}) || !slices.Equal(step, []int{2, 5, 2, 0, 3}) {
		t.Errorf("writing into the argument changed answers to %v and %v", join, step)
	}
}
