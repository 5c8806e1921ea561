package again

import (
	"math"
	"slices"

	"mootbell/api"
)

// noWords are numbers that no word is.
func noWords() []int {
	return []int{math.MinInt, math.MinInt32, -api.MaxWords, -1, 0, api.MaxWords + 1, api.MaxWords + 2, api.MaxCount, math.MaxInt32, math.MaxInt}
}

// nth is a word for each number, so that no two near each other are the same.
func nth(n int) int { return n%api.MaxWords + 1 }

func nths(from, to int) []int {
	var words []int
	for n := from; n <= to; n++ {
		words = append(words, nth(n))
	}
	return words
}

// rising is the numbers from one to another one.
func rising(from, to int) []int {
	var l []int
	for n := from; n <= to; n++ {
		l = append(l, n)
	}
	return l
}

// everyRow hands out each row of so many out of some kinds.
func everyRow[T any](long int, kinds []T, to func(row []T)) {
	var grow func(row []T)
	grow = func(row []T) {
		if len(row) == long {
			to(row)
			return
		}
		for _, k := range kinds {
			grow(append(slices.Clone(row), k))
		}
	}
	grow(nil)
}

// dice are numbers that look thrown, and are the same each time.
type dice uint64

func (d *dice) below(n int) int {
	*d = *d*6364136223846793005 + 1442695040888963407
	return int(uint64(*d>>33) % uint64(n))
}

// one of some numbers.
func (d *dice) one(of ...int) int { return of[d.below(len(of))] }
