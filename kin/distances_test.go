package kin

import (
	"math/rand"
	"slices"
	"testing"

	"pommel/api"
)

// firstWhere returns the first list of so many bits, each at least more than the one before it, for which the greatest of three numbers is
// there just once.
func firstWhere(n, size, more int, three func(bits []int) []int) []int {
	var grown func(bits []int) []int
	grown = func(bits []int) []int {
		if len(bits) == size {
			if timesGreatest(three(bits)) == 1 {
				return slices.Clone(bits)
			}
			return nil
		}
		least := 0
		if len(bits) > 0 {
			least = bits[len(bits)-1] + more
		}
		for bit := least; bit < n; bit++ {
			if found := grown(append(bits, bit)); found != nil {
				return found
			}
		}
		return nil
	}
	return grown(nil)
}

// timesGreatest returns how often the greatest number of a list is there.
func timesGreatest(list []int) int {
	times := 0
	for _, number := range list {
		if number == slices.Max(list) {
			times++
		}
	}
	return times
}

func wantFits(d [][]int) []int {
	return firstWhere(len(d), 4, 0, func(b []int) []int {
		i, j, k, l := b[0], b[1], b[2], b[3]
		return []int{d[i][j] + d[k][l], d[i][k] + d[j][l], d[i][l] + d[j][k]}
	})
}

func wantDeep(d [][]int) []int {
	return firstWhere(len(d), 3, 1, func(b []int) []int {
		return []int{d[b[0]][b[1]], d[b[0]][b[2]], d[b[1]][b[2]]}
	})
}

// reaches reports whether there is a chain of bits no two of which are further apart than a step.
func reaches(d [][]int, from, to, step int) bool {
	reached := make([]bool, len(d))
	reached[from] = true
	for range d {
		for i := range d {
			for j := range d {
				reached[j] = reached[j] || reached[i] && d[i][j] <= step
			}
		}
	}
	return reached[to]
}

func wantBelow(d [][]int) [][]int {
	return changed(d, func(i, j, far int) int {
		for step := range far {
			if reaches(d, i, j, step) {
				return step
			}
		}
		return far
	})
}

// checkFirsts compares Fits, Deep and Below with what the document says of them, and checks K4 (below).
func checkFirsts(t *testing.T, d [][]int) {
	t.Helper()
	if got, want := firstOf(t, Fits, d), wantFits(d); !slices.Equal(got, want) {
		t.Fatalf("Fits(%v) = %v, want %v", d, got, want)
	}
	if got, want := firstOf(t, Deep, d), wantDeep(d); !slices.Equal(got, want) {
		t.Fatalf("Deep(%v) = %v, want %v", d, got, want)
	}
	low := belowOf(t, d)
	if want := wantBelow(d); !same(low, want) {
		t.Fatalf("Below(%v) = %v, want %v", d, low, want)
	}
	if firstOf(t, Deep, low) != nil || firstOf(t, Fits, low) != nil || !same(belowOf(t, low), low) {
		t.Fatalf("Below(%v) = %v", d, low)
	}
	for i, row := range low {
		for j, far := range row {
			if far > d[i][j] {
				t.Fatalf("Below(%v) = %v", d, low)
			}
		}
	}
}

// lastApart returns distances of 2, but for the last two bits.
func lastApart(n, far int) [][]int {
	return changed(square(n), func(i, j, _ int) int {
		if i+j == 2*n-3 {
			return far
		}
		return 2
	})
}

func TestFirsts(t *testing.T) {
	for _, c := range []struct {
		d          [][]int
		fits, deep []int
	}{
		{metric(1), nil, nil},
		{metric(2, 0), nil, nil},
		{metric(2, 5), nil, nil},
		{metric(2, 10000), nil, nil},
		{metric(3, 3, 4, 5), nil, []int{0, 1, 2}},
		{metric(3, 1, 4, 5), nil, []int{0, 1, 2}}, // on a line
		{metric(3, 4, 4, 4), nil, nil},
		{metric(3, 3, 4, 4), nil, nil},
		{metric(3, 4, 3, 4), nil, nil},
		{metric(3, 4, 4, 3), nil, nil},
		{metric(3, 4, 4, 0), nil, nil},
		{metric(3, 3, 3, 4), nil, []int{0, 1, 2}},
		{metric(3, 0, 0, 0), nil, nil},
		{metric(4, 1, 2, 1, 1, 2, 1), []int{0, 1, 2, 3}, []int{0, 1, 2}}, // a square
		{metric(4, 1, 1, 2, 2, 1, 1), []int{0, 1, 2, 3}, []int{0, 1, 2}}, // the other ways round it
		{metric(4, 2, 1, 1, 1, 1, 2), []int{0, 1, 2, 3}, []int{0, 1, 2}},
		{metric(4, 2, 2, 2, 2, 2, 2), nil, nil},
		{metric(4, 2, 2, 2, 2, 2, 1), nil, nil}, // the least of three sums may be less
		{metric(4, 2, 2, 2, 2, 2, 3), []int{0, 1, 2, 3}, []int{0, 2, 3}},
		{metric(4, 4, 6, 6, 6, 6, 2), nil, nil},
		{metric(4, 4, 6, 6, 6, 5, 2), []int{0, 1, 2, 3}, []int{0, 1, 3}},
		{metric(5, 1, 2, 3, 4, 1, 2, 3, 1, 2, 1), nil, []int{0, 1, 2}}, // on a line
		{metric(5, 2, 2, 2, 2, 2, 2, 2, 2, 2, 3), []int{0, 1, 3, 4}, []int{0, 3, 4}},
		{metric(5, 2, 2, 2, 2, 2, 2, 2, 2, 3, 2), []int{0, 1, 2, 4}, []int{0, 2, 4}},
		{metric(5, 0, 1, 2, 1, 1, 2, 1, 1, 2, 1), []int{0, 2, 3, 4}, []int{0, 2, 3}},
		{lastApart(8, 3), []int{0, 1, 6, 7}, []int{0, 6, 7}},
		{lastApart(8, 1), nil, nil},
	} {
		if got := firstOf(t, Fits, c.d); !slices.Equal(got, c.fits) {
			t.Errorf("Fits(%v) = %v, want %v", c.d, got, c.fits)
		}
		if got := firstOf(t, Deep, c.d); !slices.Equal(got, c.deep) {
			t.Errorf("Deep(%v) = %v, want %v", c.d, got, c.deep)
		}
	}
}

func TestBelow(t *testing.T) {
	for _, c := range []struct{ d, want [][]int }{
		{metric(1), metric(1)},
		{metric(2, 7), metric(2, 7)},
		{metric(3, 3, 4, 5), metric(3, 3, 4, 4)},
		{metric(3, 5, 4, 3), metric(3, 4, 4, 3)},
		{metric(3, 5, 5, 3), metric(3, 5, 5, 3)},
		{metric(3, 10000, 10000, 0), metric(3, 10000, 10000, 0)},
		{metric(4, 1, 2, 1, 1, 2, 1), metric(4, 1, 1, 1, 1, 1, 1)},
		{metric(4, 1, 3, 6, 2, 5, 3), metric(4, 1, 2, 3, 2, 3, 3)}, // on a line
		{metric(5, 4, 3, 2, 1, 1, 2, 3, 1, 2, 1), metric(5, 1, 1, 1, 1, 1, 1, 1, 1, 1, 1)},
		{metric(5, 9, 9, 4, 9, 3, 9, 5, 9, 6, 9), metric(5, 9, 9, 4, 9, 3, 9, 5, 9, 5, 9)},
	} {
		if low := belowOf(t, c.d); !same(low, c.want) {
			t.Errorf("Below(%v) = %v, want %v", c.d, low, c.want)
		}
	}
}

// TestAllFirsts: P3 and K4, for all distances of few bits.
func TestAllFirsts(t *testing.T) {
	for i, most := range []int{0, 5, 5, 3, 1} {
		for d := range allMetrics(i+1, most) {
			checkFirsts(t, d)
		}
	}
}

func TestSomeFirsts(t *testing.T) {
	r := rand.New(rand.NewSource(1))
	for range 600 {
		n := r.Intn(api.MaxKin) + 1
		checkFirsts(t, someMetric(r, n, 1+r.Intn(30)))
		levels := someLevels(r, n, r.Intn(20))
		checkFirsts(t, levels)
		if firstOf(t, Deep, levels) != nil || firstOf(t, Fits, levels) != nil || !same(belowOf(t, levels), levels) {
			t.Fatalf("%v have equal depths", levels)
		}
		tree, _ := someTree(r, n, r.Intn(20))
		checkFirsts(t, tree)
		if firstOf(t, Fits, tree) != nil {
			t.Fatalf("%v fit a tree", tree)
		}
	}
}

// TestGreatestBelow: K4: no distances that have equal depths are greater somewhere and nowhere greater than the others.
func TestGreatestBelow(t *testing.T) {
	for d := range allMetrics(3, 4) {
		checkNoneBetween(t, d, 4)
	}
	for d := range allMetrics(4, 2) {
		checkNoneBetween(t, d, 2)
	}
}

func checkNoneBetween(t *testing.T, d [][]int, most int) {
	t.Helper()
	low := belowOf(t, d)
	for other := range allMetrics(len(d), most) {
		if firstOf(t, Deep, other) == nil && isBelow(other, d) && !isBelow(other, low) {
			t.Fatalf("Below(%v) = %v, but there is %v", d, low, other)
		}
	}
}

func isBelow(a, b [][]int) bool {
	for i, row := range a {
		for j, far := range row {
			if far > b[i][j] {
				return false
			}
		}
	}
	return true
}
