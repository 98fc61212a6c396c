package kin

import (
	"math/big"
	"math/rand"
	"slices"
	"strings"
	"testing"

	"pommel/api"
)

// metric returns the distances whose numbers above the diagonal are given row by row.
func metric(n int, upper ...int) [][]int {
	d := square(n)
	for i := range n {
		for j := i + 1; j < n; j++ {
			d[i][j], d[j][i] = upper[0], upper[0]
			upper = upper[1:]
		}
	}
	return d
}

func square(n int) [][]int {
	d := make([][]int, n)
	for i := range d {
		d[i] = make([]int, n)
	}
	return d
}

func cloned(d [][]int) [][]int {
	out := slices.Clone(d)
	for i := range out {
		out[i] = slices.Clone(out[i])
	}
	return out
}

// changed returns other distances: each number but those on the diagonal is changed.
func changed(d [][]int, change func(i, j, far int) int) [][]int {
	out := square(len(d))
	for i, row := range d {
		for j, far := range row {
			if i != j {
				out[i][j] = change(i, j, far)
			}
		}
	}
	return out
}

func same(a, b [][]int) bool {
	return slices.EqualFunc(a, b, slices.Equal[[]int])
}

// isMetric reports whether no number is greater than the sum of two others.
func isMetric(d [][]int) bool {
	for i := range d {
		for j := range d {
			for k := range d {
				if d[i][j] > d[i][k]+d[j][k] {
					return false
				}
			}
		}
	}
	return true
}

// allMetrics returns all distances of n bits up to most.
func allMetrics(n, most int) func(yield func([][]int) bool) {
	return func(yield func([][]int) bool) {
		upper := make([]int, n*(n-1)/2)
		for {
			if d := metric(n, upper...); isMetric(d) && !yield(d) {
				return
			}
			i := 0
			for i < len(upper) && upper[i] == most {
				upper[i] = 0
				i++
			}
			if i == len(upper) {
				return
			}
			upper[i]++
		}
	}
}

// someMetric returns random distances of up to most: of random numbers, the lengths of the shortest ways.
func someMetric(r *rand.Rand, n, most int) [][]int {
	least := r.Intn(most + 1)
	var upper []int
	for range n * (n - 1) / 2 {
		upper = append(upper, least+r.Intn(most-least+1))
	}
	d := metric(n, upper...)
	for !isMetric(d) {
		for i := range d {
			for j := range d {
				for k := range d {
					d[i][j] = min(d[i][j], d[i][k]+d[k][j])
				}
			}
		}
	}
	return d
}

// someLevels returns random distances that have equal depths: groups of bits are joined, each time at a greater distance, or the same.
func someLevels(r *rand.Rand, n, step int) [][]int {
	d := square(n)
	var groups [][]int
	for i := range n {
		groups = append(groups, []int{i})
	}
	for far := r.Intn(step + 1); len(groups) > 1; far += r.Intn(step + 1) {
		r.Shuffle(len(groups), func(i, j int) { groups[i], groups[j] = groups[j], groups[i] })
		for _, i := range groups[0] {
			for _, j := range groups[1] {
				d[i][j], d[j][i] = far, far
			}
		}
		groups[1] = append(groups[1], groups[0]...)
		groups = groups[1:]
	}
	return d
}

// someTree returns the distances of a random tree, and its splits of a length above 0. Lengths are halves if one of the two points that they
// join is at half a unit: so all distances of bits are whole.
func someTree(r *rand.Rand, n, most int) ([][]int, []api.Split) {
	type group struct{ bits, half int }
	var groups []group
	for i := range n {
		groups = append(groups, group{bits: 1 << i})
	}
	halves := map[int]int{} // of the splits, by the side without the bit 0
	for len(groups) > 1 {
		r.Shuffle(len(groups), func(i, j int) { groups[i], groups[j] = groups[j], groups[i] })
		top := group{half: r.Intn(2)}
		for _, g := range groups[:2] {
			side := g.bits
			if side&1 == 1 {
				side = 1<<n - 1 - side
			}
			halves[side] += 2*r.Intn(most+1) + (g.half ^ top.half)
			top.bits |= g.bits
		}
		groups = append(groups[2:], top)
	}
	d := square(n)
	var splits []api.Split
	for _, list := range allSets(n) {
		length := halves[numberOf(list)]
		if length == 0 {
			continue
		}
		splits = append(splits, api.Split{Set: list, Length: numOf(big.NewRat(int64(length), 2))})
		d = changed(d, func(i, j, twice int) int { return twice + length*parts(list, i, j) })
	}
	return changed(d, func(i, j, twice int) int { return twice / 2 }), splits
}

// parts returns 1 if just one of two bits is in a set.
func parts(set []int, i, j int) int {
	if slices.Contains(set, i) != slices.Contains(set, j) {
		return 1
	}
	return 0
}

func numberOf(set []int) int {
	number := 0
	for _, bit := range set {
		number |= 1 << bit
	}
	return number
}

// allSets returns the sets of splits of n bits as they are listed.
func allSets(n int) [][]int {
	var sets [][]int
	for size := 1; size < n; size++ {
		sets = append(sets, setsFrom(1, n, size)...)
	}
	return sets
}

// setsFrom returns the sets of a size of bits from one on, lexicographically.
func setsFrom(first, n, size int) [][]int {
	if size == 0 {
		return [][]int{nil}
	}
	var sets [][]int
	for bit := first; bit < n; bit++ {
		for _, rest := range setsFrom(bit+1, n, size-1) {
			sets = append(sets, append([]int{bit}, rest...))
		}
	}
	return sets
}

func numOf(x *big.Rat) api.Num {
	return api.Num(strings.TrimSuffix(x.String(), "/1"))
}

func ratOf(t *testing.T, n api.Num) *big.Rat {
	t.Helper()
	x, ok := new(big.Rat).SetString(string(n))
	if !ok || numOf(x) != n {
		t.Fatalf("%q is no valid Num", n)
	}
	return x
}

func equalSplits(a, b []api.Split) bool {
	return slices.EqualFunc(a, b, func(x, y api.Split) bool { return x.Length == y.Length && slices.Equal(x.Set, y.Set) })
}

// lengthOf returns the length of a set in a list of splits, 0 if it is not there.
func lengthOf(t *testing.T, splits []api.Split, set []int) *big.Rat {
	t.Helper()
	length := new(big.Rat)
	for _, s := range splits {
		if slices.Equal(s.Set, set) {
			length.Add(length, ratOf(t, s.Length))
		}
	}
	return length
}

// longOnes returns the splits with a length above 0.
func longOnes(t *testing.T, splits []api.Split) []api.Split {
	t.Helper()
	var long []api.Split
	for _, s := range splits {
		if ratOf(t, s.Length).Sign() > 0 {
			long = append(long, s)
		}
	}
	return long
}

// The functions, of arguments without an error.

func splitsOf(t *testing.T, of func([][]int) ([]api.Split, api.Errno), d [][]int) []api.Split {
	t.Helper()
	splits, e := of(d)
	check(t, e, d)
	return splits
}

// firstOf returns what Fits or Deep finds, nil if it finds nothing.
func firstOf(t *testing.T, of func([][]int) ([]int, api.Errno), d [][]int) []int {
	t.Helper()
	bits, e := of(d)
	if e == api.ErrNone && len(bits) == 0 {
		return nil
	}
	check(t, e, d)
	return bits
}

func belowOf(t *testing.T, d [][]int) [][]int {
	t.Helper()
	low, e := Below(d)
	check(t, e, d)
	return low
}

func distancesOf(t *testing.T, n int, splits []api.Split) [][]api.Num {
	t.Helper()
	far, e := Distances(n, splits)
	check(t, e, n, splits)
	return far
}

func areAllCompatible(t *testing.T, n int, splits []api.Split) bool {
	t.Helper()
	ok, e := Compatible(n, splits)
	check(t, e, n, splits)
	return ok
}

func check(t *testing.T, e api.Errno, arguments ...any) {
	t.Helper()
	if e != api.OK {
		t.Fatalf("%v: error %d", arguments, e)
	}
}
