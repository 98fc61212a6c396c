package strap

import (
	"slices"

	"pommel/api"
)

// round is a round strap: how many places it has, and those that are in its set.
type round struct {
	count int
	set   []int
}

func newRound(v int, set []int) (round, api.Errno) {
	if len(set) > api.MaxRound {
		return round{}, api.ErrLong
	}
	if !isPlaces(v) {
		return round{}, api.ErrArg
	}
	if !rise(set, v-1) {
		return round{}, api.ErrForm
	}
	return round{count: v, set: set}, api.OK
}

func isPlaces(v int) bool {
	return v >= 2 && v <= api.MaxRound
}

// differences returns how often each number from 0 on is a difference.
func (r round) differences() []int {
	counts := make([]int, r.count)
	for i, a := range r.set {
		for _, b := range r.set[:i] {
			counts[a-b]++
			counts[r.count-(a-b)]++
		}
	}
	return counts
}

// often returns how often each difference comes, and false if the round strap is not even.
func (r round) often() (int, bool) {
	counts := r.differences()
	for _, count := range counts[1:] {
		if count != counts[1] {
			return 0, false
		}
	}
	return counts[1], true
}

// units returns the numbers by which the places can be multiplied: those without a common divisor above 1 with their count.
func (r round) units() []int {
	var units []int
	for n := range r.count {
		if divisor(n, r.count) == 1 {
			units = append(units, n)
		}
	}
	return units
}

// divisor returns the greatest common divisor.
func divisor(a, b int) int {
	for b != 0 {
		a, b = b, a%b
	}
	return a
}

// least returns the least one of the sets that the set becomes by multiplying it by a number, and moving it by any.
func (r round) least(by int) []int {
	var least []int
	for move := range r.count {
		if set := r.changed(by, move); least == nil || slices.Compare(set, least) < 0 {
			least = set
		}
	}
	return least
}

func (r round) changed(by, move int) []int {
	var set []int
	for _, place := range r.set {
		set = append(set, (place*by+move)%r.count)
	}
	slices.Sort(set)
	return set
}

// multipliers compares the least moved sets: these are the same just for sets that become each other by moving.
func (r round) multipliers() []int {
	same := r.least(1)
	var list []int
	for _, by := range r.units() {
		if slices.Equal(r.least(by), same) {
			list = append(list, by)
		}
	}
	return list
}

func (r round) canon() []int {
	canon := r.least(1)
	for _, by := range r.units() {
		if set := r.least(by); slices.Compare(set, canon) < 0 {
			canon = set
		}
	}
	return canon
}
