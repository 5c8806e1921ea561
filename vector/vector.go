// Package vector tells how far each has come.
package vector

import (
	"mootbell/api"
)

// Check tells what is wrong with a vector.
func Check(v []int) error {
	if len(v) != api.Members {
		return api.ErrShape
	}
	if ofAny(func(who int) bool { return v[who] < 0 || v[who] > api.MaxCount }) {
		return api.ErrRange
	}
	return nil
}

// Join two.
func Join(a, b []int) ([]int, error) {
	if err := checkBoth(a, b); err != nil {
		return nil, err
	}
	joined := make([]int, api.Members)
	for who := range joined {
		joined[who] = max(a[who], b[who])
	}
	return joined, nil
}

// Leq of two.
func Leq(a, b []int) (bool, error) {
	if err := checkBoth(a, b); err != nil {
		return false, err
	}
	return !anyGreater(a, b), nil
}

// Apart are two?
func Apart(a, b []int) (bool, error) {
	if err := checkBoth(a, b); err != nil {
		return false, err
	}
	return anyGreater(a, b) && anyGreater(b, a), nil
}

// Step of a member.
func Step(v []int, who int) ([]int, error) {
	if err := Check(v); err != nil {
		return nil, err
	}
	if who < 0 || who >= api.Members {
		return nil, api.ErrRange
	}
	if v[who] == api.MaxCount {
		return nil, api.ErrFull
	}
	stepped := make([]int, api.Members)
	copy(stepped, v)
	stepped[who]++
	return stepped, nil
}

func checkBoth(a, b []int) error {
	if err := Check(a); err != nil {
		return err
	}
	return Check(b)
}

// anyGreater leaves Check to its callers: of a shorter list it would read past the end.
func anyGreater(a, b []int) bool {
	return ofAny(func(who int) bool { return a[who] > b[who] })
}

// ofAny tells whether something is so of any member.
func ofAny(is func(who int) bool) bool {
	for who := range api.Members {
		if is(who) {
			return true
		}
	}
	return false
}
