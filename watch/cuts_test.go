package watch

import (
	"fmt"
	"math"
	"slices"
	"testing"

	"pommel/api"
)

func TestConsistent(t *testing.T) {
	s := api.Story{Deeds: []int{2, 2, 1}, Notes: notesOf(0, 1, 1, 2, 1, 2, 2, 1)}
	for _, c := range []struct {
		cut, back, forth []int
	}{
		{[]int{0, 0, 0}, []int{0, 0, 0}, []int{0, 0, 0}},
		{[]int{2, 2, 1}, []int{2, 2, 1}, []int{2, 2, 1}},
		{[]int{1, 2, 1}, []int{1, 2, 1}, []int{1, 2, 1}},
		{[]int{2, 0, 0}, []int{2, 0, 0}, []int{2, 0, 0}},
		{[]int{0, 1, 0}, []int{0, 1, 0}, []int{0, 1, 0}},
		{[]int{0, 2, 0}, []int{0, 1, 0}, []int{1, 2, 0}},
		{[]int{0, 0, 1}, []int{0, 0, 0}, []int{1, 2, 1}},
		{[]int{2, 0, 1}, []int{2, 0, 0}, []int{2, 2, 1}},
		{[]int{0, 2, 1}, []int{0, 1, 0}, []int{1, 2, 1}}, // each back for another reason
		{[]int{1, 1, 1}, []int{1, 1, 0}, []int{1, 2, 1}},
	} {
		ok, e := Consistent(s, c.cut)
		if want := slices.Equal(c.cut, c.back); ok != want || e != api.OK {
			t.Errorf("Consistent(%v) = %t, %d", c.cut, ok, e)
		}
		back, e := Back(s, c.cut)
		checkIs(t, fmt.Sprint("Back of ", c.cut), back, e, c.back)
		forth, e := Forth(s, c.cut)
		checkIs(t, fmt.Sprint("Forth of ", c.cut), forth, e, c.forth)
	}
}

// checkCuts checks all functions of cuts of a story, by all its consistent cuts.
func checkCuts(t *testing.T, s api.Story) {
	t.Helper()
	all := allCuts(s)
	good := goodCuts(s, all)
	if n, e := Cuts(s); n != len(good) || e != api.OK {
		t.Errorf("Cuts(%v) = %d, %d, want %d", s, n, e, len(good))
	}
	for _, i := range someNumbers(len(good)) {
		got, e := At(s, i)
		checkIs(t, fmt.Sprint("At ", s, i), got, e, good[i])
		if rank, e := Rank(s, good[i]); rank != i || e != api.OK {
			t.Errorf("Rank(%v, %v) = %d, %d, want %d", s, good[i], rank, e, i)
		}
	}
	for _, rank := range []int{-1, len(good), len(good) + 1, len(all), math.MaxInt, math.MinInt} {
		if got, e := At(s, rank); e != api.ErrNone || len(got) != 0 {
			t.Errorf("At(%v, %d) = %v, %d", s, rank, got, e)
		}
	}
	for _, i := range someNumbers(len(all)) {
		checkCut(t, s, all[i], good)
	}
}

// someNumbers returns the numbers below n, or some of them, if they are many, with the first and the last ones.
func someNumbers(n int) []int {
	step := 1 + n/30
	var list []int
	for i := 0; i < n; i += step {
		list = append(list, i)
	}
	return append(list, n-1)
}

// checkCut checks the functions of one cut, and W6.
func checkCut(t *testing.T, s api.Story, c []int, good [][]int) {
	t.Helper()
	isGood := contains(good, c)
	if ok, e := Consistent(s, c); ok != isGood || e != api.OK {
		t.Errorf("Consistent(%v, %v) = %t, %d", s, c, ok, e)
	}
	if rank, e := Rank(s, c); !isGood && (rank != 0 || e != api.ErrNone) {
		t.Errorf("Rank(%v, %v) = %d, %d", s, c, rank, e)
	}
	var within, beyond [][]int
	for _, other := range good {
		if isWithin(other, c) {
			within = append(within, other)
		}
		if isWithin(c, other) {
			beyond = append(beyond, other)
		}
	}
	back, e := Back(s, c)
	checkIs(t, fmt.Sprint("Back ", s, c), back, e, combined(within, greatest))
	forth, f := Forth(s, c)
	checkIs(t, fmt.Sprint("Forth ", s, c), forth, f, combined(beyond, least))
	if !contains(within, back) || !contains(beyond, forth) {
		t.Errorf("%v, %v: back %v, forth %v", s, c, back, forth)
	}
	again, e := Back(s, back)
	checkIs(t, fmt.Sprint("Back of Back ", s, c), again, e, back)
	further, e := Forth(s, forth)
	checkIs(t, fmt.Sprint("Forth of Forth ", s, c), further, e, forth)
	if !isWithin(back, forth) || slices.Equal(back, c) != isGood || slices.Equal(forth, c) != isGood {
		t.Errorf("%v, %v: back %v, forth %v", s, c, back, forth)
	}
}

// TestCuts: also W6, P1 and P3.
func TestCuts(t *testing.T) {
	for _, s := range someStories() {
		checkCuts(t, s)
	}
}

// allAt returns all cuts that At returns.
func allAt(t *testing.T, s api.Story) [][]int {
	t.Helper()
	n, e := Cuts(s)
	if e != api.OK {
		t.Fatalf("Cuts(%v): %d", s, e)
	}
	var cuts [][]int
	for rank := range n {
		c, e := At(s, rank)
		if e != api.OK || rank > 0 && slices.Compare(cuts[rank-1], c) >= 0 {
			t.Fatalf("At(%v, %d) = %v, %d, after %v", s, rank, c, e, cuts)
		}
		cuts = append(cuts, c)
	}
	return cuts
}

// fewCuts returns those of the stories that do not have too many cuts to call a function for any two of them.
func fewCuts(most int) []api.Story {
	return slices.DeleteFunc(someStories(), func(s api.Story) bool { return len(allCuts(s)) > most })
}

// TestW2: meets and joins.
func TestW2(t *testing.T) {
	for _, s := range fewCuts(60) {
		cuts := allAt(t, s)
		for _, a := range cuts {
			for _, b := range cuts {
				for _, pick := range []func(...int) int{least, greatest} {
					c := combined([][]int{a, b}, pick)
					if ok, e := Consistent(s, c); !ok || e != api.OK {
						t.Errorf("Consistent(%v, %v) = %t, %d, but %v and %v are", s, c, ok, e, a, b)
					}
				}
			}
		}
	}
}

// TestW3: clocks as cuts.
func TestW3(t *testing.T) {
	for _, s := range fewCuts(600) {
		clocks, e := Clocks(s)
		if e != api.OK {
			t.Fatalf("Clocks(%v): %d", s, e)
		}
		for _, clock := range slices.Concat(clocks...) {
			if ok, e := Consistent(s, clock); !ok || e != api.OK {
				t.Errorf("Consistent(%v, %v) = %t, %d", s, clock, ok, e)
			}
		}
		for _, c := range allAt(t, s) {
			last := [][]int{make([]int, len(c))}
			for hand, deeds := range c {
				if deeds > 0 {
					last = append(last, clocks[hand][deeds-1])
				}
			}
			if join := combined(last, greatest); !slices.Equal(join, c) {
				t.Errorf("%v: %v is consistent, but the join of %v is %v", s, c, last, join)
			}
		}
	}
}

// TestW8: without messages.
func TestW8(t *testing.T) {
	for hands := 1; hands <= api.MaxHands; hands++ {
		for deeds := range each(slices.Repeat([]int{api.MaxDeeds}, hands)) {
			if hands == api.MaxHands && sum(deeds)%5 != 4 {
				continue
			}
			s := api.Story{Deeds: deeds}
			want := 1
			for _, n := range deeds {
				want *= n + 1
			}
			if n, e := Cuts(s); n != want || e != api.OK {
				t.Errorf("Cuts(%v) = %d, %d, want %d", s, n, e, want)
			}
		}
	}
	s := api.Story{Deeds: slices.Repeat([]int{api.MaxDeeds}, api.MaxHands)}
	for _, c := range allCuts(s) {
		ok, e := Consistent(s, c)
		back, f := Back(s, c)
		forth, g := Forth(s, c)
		if !ok || e != api.OK || f != api.OK || g != api.OK || !slices.Equal(back, c) || !slices.Equal(forth, c) {
			t.Errorf("%v: %t, %d; %v, %d; %v, %d", c, ok, e, back, f, forth, g)
		}
	}
}
