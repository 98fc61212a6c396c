package strap

import (
	"math/rand"
	"slices"
	"testing"

	"pommel/api"
)

func TestStraps(t *testing.T) {
	cases := []struct {
		holes, distances, twice, misses []int
	}{
		{[]int{0}, []int{0}, nil, nil},
		{[]int{0, 1}, []int{0, 1}, nil, nil},
		{[]int{0, 2}, []int{0, 0, 1}, nil, []int{1}},
		{[]int{0, 1, 2}, []int{0, 2, 1}, []int{0, 1, 1, 2}, nil},
		{[]int{0, 1, 3}, []int{0, 1, 1, 1}, nil, nil},
		{[]int{0, 1, 4, 6}, []int{0, 1, 1, 1, 1, 1, 1}, nil, nil},
		{[]int{0, 1, 2, 5}, []int{0, 2, 1, 1, 1, 1}, []int{0, 1, 1, 2}, nil},
		{[]int{0, 1, 4, 5}, []int{0, 2, 0, 1, 2, 1}, []int{0, 1, 4, 5}, []int{2}},
		{[]int{0, 3, 5, 8}, []int{0, 0, 1, 2, 0, 2, 0, 0, 1}, []int{0, 3, 5, 8}, []int{1, 4, 6, 7}},
		{[]int{0, 2, 4, 9, 11}, []int{0, 0, 3, 0, 1, 1, 0, 2, 0, 2, 0, 1}, []int{0, 2, 2, 4}, []int{1, 3, 6, 8, 10}},
		{[]int{0, 5, 6, 10, 11}, []int{0, 2, 0, 0, 1, 3, 2, 0, 0, 0, 1, 1}, []int{5, 6, 10, 11}, []int{2, 3, 7, 8, 9}},
		{[]int{0, 1, 4, 9, 11}, []int{0, 1, 1, 1, 1, 1, 0, 1, 1, 1, 1, 1}, nil, []int{6}},
	}
	for _, c := range cases {
		if counts := distancesOf(t, c.holes); !slices.Equal(counts, c.distances) {
			t.Errorf("Distances(%v) = %v, want %v", c.holes, counts, c.distances)
		}
		if pairs, e := Twice(c.holes); !slices.Equal(pairs, c.twice) || (e == api.ErrNone) != (c.twice == nil) {
			t.Errorf("Twice(%v) = %v, %d, want %v", c.holes, pairs, e, c.twice)
		}
		if missing := missesOf(t, c.holes); !slices.Equal(missing, c.misses) {
			t.Errorf("Misses(%v) = %v, want %v", c.holes, missing, c.misses)
		}
	}
}

// firstTwice returns the four holes by trying all: in order of the least distance, then the least a, then the least c.
func firstTwice(holes []int) []int {
	var first []int
	for i, a := range holes {
		for _, b := range holes[i+1:] {
			for j, c := range holes[i+1:] {
				for _, d := range holes[i+j+2:] {
					if b-a != d-c {
						continue
					}
					if first == nil || slices.Compare([]int{b - a, a, c}, []int{first[1] - first[0], first[0], first[2]}) < 0 {
						first = []int{a, b, c, d}
					}
				}
			}
		}
	}
	return first
}

// checkStrap checks the functions of a strap by the definitions, and T7.
func checkStrap(t *testing.T, holes []int) {
	t.Helper()
	length := holes[len(holes)-1]
	counts := make([]int, length+1)
	var missing, mirrored []int
	for n := 1; n <= length; n++ {
		for _, hole := range holes {
			if slices.Contains(holes, hole+n) {
				counts[n]++
			}
		}
		if counts[n] == 0 {
			missing = append(missing, n)
		}
	}
	for _, hole := range slices.Backward(holes) {
		mirrored = append(mirrored, length-hole)
	}
	if got := distancesOf(t, holes); !slices.Equal(got, counts) {
		t.Fatalf("Distances(%v) = %v, want %v", holes, got, counts)
	}
	if got := distancesOf(t, mirrored); !slices.Equal(got, counts) {
		t.Fatalf("Distances(%v) = %v, want %v", mirrored, got, counts)
	}
	if got := missesOf(t, holes); !slices.Equal(got, missing) {
		t.Fatalf("Misses(%v) = %v, want %v", holes, got, missing)
	}
	pairs, _ := Twice(holes)
	if single := isSingle(t, holes); single != (slices.Max(counts) < 2) || !slices.Equal(pairs, firstTwice(holes)) {
		t.Fatalf("Twice(%v) = %v", holes, pairs)
	}
	checkLengths(t, holes)
}

// checkLengths checks what T6 says of a strap.
func checkLengths(t *testing.T, holes []int) {
	t.Helper()
	k, length := len(holes), holes[len(holes)-1]
	if isSingle(t, holes) && length < k*(k-1)/2 {
		t.Errorf("%v is single", holes)
	}
	if len(missesOf(t, holes)) == 0 && length > k*(k-1)/2 {
		t.Errorf("%v is full", holes)
	}
}

// TestAllStraps: all straps up to a length, and random ones.
func TestAllStraps(t *testing.T) {
	for bits := 1; bits < 1<<12; bits += 2 {
		checkStrap(t, setOf(bits))
	}
	r := rand.New(rand.NewSource(1))
	for range 400 {
		checkStrap(t, someStrap(r, 8, 60))
		checkStrap(t, someStrap(r, 12, api.MaxStrap))
	}
}

// TestLongStraps: straps at their limits.
func TestLongStraps(t *testing.T) {
	most := upTo(api.MaxMarks)
	spread := make([]int, api.MaxMarks) // the first hole and the last ones
	for i := range spread[1:] {
		spread[i+1] = api.MaxStrap - api.MaxMarks + i + 2
	}
	for _, holes := range [][]int{most, spread, {0, api.MaxStrap}, {0, 1, api.MaxStrap}, {0, api.MaxStrap - 1, api.MaxStrap}} {
		checkStrap(t, holes)
	}
	counts := distancesOf(t, most)
	for n := 1; n < api.MaxMarks; n++ {
		if counts[n] != api.MaxMarks-n {
			t.Errorf("%d comes %d times", n, counts[n])
		}
	}
	if pairs, e := Twice(most); e != api.OK || !slices.Equal(pairs, []int{0, 1, 1, 2}) {
		t.Errorf("Twice = %v, %d", pairs, e)
	}
	if counts := distancesOf(t, []int{0, api.MaxStrap}); len(counts) != api.MaxStrap+1 || counts[api.MaxStrap] != 1 {
		t.Errorf("Distances = %v", counts)
	}
	if missing := missesOf(t, []int{0, api.MaxStrap}); !slices.Equal(missing, upTo(api.MaxStrap)[1:]) {
		t.Errorf("Misses = %v", missing)
	}
}
