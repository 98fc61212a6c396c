package strap

import (
	"math/rand"
	"slices"
	"testing"

	"pommel/api"
)

// upTo returns the numbers from 0 to n - 1.
func upTo(n int) []int {
	list := make([]int, n)
	for i := range list {
		list[i] = i
	}
	return list
}

// someStrap returns a random strap of up to most holes, no longer than length.
func someStrap(r *rand.Rand, most, length int) []int {
	holes := []int{0}
	for range r.Intn(most) {
		holes = append(holes, r.Intn(length)+1)
	}
	slices.Sort(holes)
	return slices.Compact(holes)
}

// someSet returns a random set of 1 to v places.
func someSet(r *rand.Rand, v int) []int {
	set := r.Perm(v)[:r.Intn(v)+1]
	slices.Sort(set)
	return set
}

// setOf returns the places that are bits of a number.
func setOf(bits int) []int {
	var set []int
	for i := 0; bits>>i > 0; i++ {
		if bits>>i&1 == 1 {
			set = append(set, i)
		}
	}
	return set
}

// bitsOf returns places as the bits of a number.
func bitsOf(set []int) int {
	bits := 0
	for _, place := range set {
		bits |= 1 << place
	}
	return bits
}

// all returns all sets of places of all v up to most, with v.
func all(most int) func(yield func(int, []int) bool) {
	return func(yield func(int, []int) bool) {
		for v := 2; v <= most; v++ {
			for bits := 1; bits < 1<<v; bits++ {
				if !yield(v, setOf(bits)) {
					return
				}
			}
		}
	}
}

// units returns the numbers from 1 to v - 1 without a common divisor above 1 with v, by trying all divisors.
func units(v int) []int {
	var list []int
	for n := 1; n < v; n++ {
		prime := true
		for d := 2; d <= n; d++ {
			prime = prime && (n%d != 0 || v%d != 0)
		}
		if prime {
			list = append(list, n)
		}
	}
	return list
}

// moved returns a set whose places are multiplied and moved, modulo v.
func moved(v int, set []int, by, move int) []int {
	bits := 0
	for _, place := range set {
		bits |= 1 << ((by*place + move) % v)
	}
	return setOf(bits)
}

// rest returns the places that are not in a set.
func rest(v int, set []int) []int {
	return setOf(1<<v - 1 - bitsOf(set))
}

// counted returns how often each number from 1 to v - 1 is a difference: how many places of the set go to places of it if moved.
func counted(v int, set []int) []int {
	counts := make([]int, v-1)
	for n := range counts {
		for _, place := range set {
			if slices.Contains(set, (place+n+1)%v) {
				counts[n]++
			}
		}
	}
	return counts
}

// areEqual reports whether all numbers are the same.
func areEqual(list []int) bool {
	return len(slices.Compact(slices.Clone(list))) == 1
}

// The functions, of arguments without an error.

func distancesOf(t *testing.T, holes []int) []int {
	t.Helper()
	counts, e := Distances(holes)
	check(t, e, "Distances", holes)
	return counts
}

func missesOf(t *testing.T, holes []int) []int {
	t.Helper()
	missing, e := Misses(holes)
	check(t, e, "Misses", holes)
	return missing
}

// isSingle reports whether Twice finds nothing.
func isSingle(t *testing.T, holes []int) bool {
	t.Helper()
	pairs, e := Twice(holes)
	if e != api.ErrNone {
		check(t, e, "Twice", holes)
	}
	if (e == api.OK) != (len(pairs) == 4) {
		t.Fatalf("Twice(%v) = %v, %d", holes, pairs, e)
	}
	return e == api.ErrNone
}

func single(t *testing.T, k int) []int {
	t.Helper()
	holes, e := Single(k)
	check(t, e, "Single", k)
	return holes
}

func full(t *testing.T, length int) []int {
	t.Helper()
	holes, e := Full(length)
	check(t, e, "Full", length)
	return holes
}

func singer(t *testing.T, q int) []int {
	t.Helper()
	set, e := Singer(q)
	check(t, e, "Singer", q)
	return set
}

// evenOf returns how often each difference comes, and whether the round strap is even.
func evenOf(t *testing.T, v int, set []int) (int, bool) {
	t.Helper()
	often, e := Even(v, set)
	if e == api.ErrNone && often == 0 {
		return 0, false
	}
	check(t, e, "Even", v, set, often)
	return often, true
}

func multipliersOf(t *testing.T, v int, set []int) []int {
	t.Helper()
	list, e := Multipliers(v, set)
	check(t, e, "Multipliers", v, set)
	return list
}

func canonOf(t *testing.T, v int, set []int) []int {
	t.Helper()
	canon, e := Canon(v, set)
	check(t, e, "Canon", v, set)
	return canon
}

func check(t *testing.T, e api.Errno, what string, arguments ...any) {
	t.Helper()
	if e != api.OK {
		t.Fatalf("%s of %v: error %d", what, arguments, e)
	}
}
