package mend

import (
	"math/big"
	"math/rand"
	"slices"
	"testing"

	"pommel/api"
)

func same(a, b [][]int) bool {
	return slices.EqualFunc(a, b, slices.Equal[[]int])
}

func TestSidneyKnown(t *testing.T) {
	for _, c := range []struct {
		jobs   []api.Job
		pairs  []api.Pair
		sets   [][]int
		ratios []api.Num
	}{
		{jobsOf(1, 0), nil, [][]int{{0}}, numsOf("0")},
		{jobsOf(50, 50), nil, [][]int{{0}}, numsOf("1")},
		{jobsOf(50, 1), nil, [][]int{{0}}, numsOf("1/50")},
		{jobsOf(1, 50), nil, [][]int{{0}}, numsOf("50")},
		{jobsOf(2, 3, 4, 6, 6, 9), nil, [][]int{{0, 1, 2}}, numsOf("3/2")},           // the same ratio
		{jobsOf(2, 3, 4, 6, 6, 9), pairsOf(2, 0), [][]int{{0, 1, 2}}, numsOf("3/2")}, // of several beginnings the greatest one
		{jobsOf(2, 3, 4, 5, 2, 3), nil, [][]int{{0, 2}, {1}}, numsOf("3/2", "5/4")},
		{jobsOf(2, 1, 2, 2, 2, 3), nil, [][]int{{2}, {1}, {0}}, numsOf("3/2", "1", "1/2")},         // as many sets as jobs
		{jobsOf(2, 3, 2, 2, 2, 1), chain(3), [][]int{{0}, {1}, {2}}, numsOf("3/2", "1", "1/2")},    // as many sets as jobs
		{jobsOf(2, 1, 2, 2, 2, 3), chain(3), [][]int{{0, 1, 2}}, numsOf("1")},                      // each one helps the one before
		{jobsOf(1, 1, 1, 1, 1, 1), chain(3), [][]int{{0, 1, 2}}, numsOf("1")},                      // three beginnings with that ratio
		{jobsOf(1, 0, 1, 0, 1, 0), chain(3), [][]int{{0, 1, 2}}, numsOf("0")},                      // no weight
		{jobsOf(1, 0, 1, 0, 1, 1), chain(3), [][]int{{0, 1, 2}}, numsOf("1/3")},                    // all the weight in the end
		{jobsOf(1, 1, 1, 0, 1, 0), chain(3), [][]int{{0}, {1, 2}}, numsOf("1", "0")},               // and in the beginning
		{jobsOf(1, 0, 1, 2, 1, 1, 1, 0), pairsOf(0, 1), [][]int{{0, 1, 2}, {3}}, numsOf("1", "0")}, // a pair that is as good as a job
		{jobsOf(1, 0, 1, 2, 1, 3, 1, 0), pairsOf(0, 1, 0, 2), [][]int{{0, 1, 2}, {3}}, numsOf("5/3", "0")},
		{jobsOf(1, 2, 1, 3, 1, 0), pairsOf(2, 0, 2, 1), [][]int{{0, 1, 2}}, numsOf("5/3")}, // only both together
		{jobsOf(2, 1, 1, 4, 3, 3, 1, 0, 2, 7), pairsOf(3, 4, 0, 2), [][]int{{1}, {3, 4}, {0, 2}}, numsOf("4", "7/3", "4/5")},
		{slices.Repeat(jobsOf(50, 50), 10), nil, [][]int{upTo(10)}, numsOf("1")},
		{jobsOf(50, 1, 50, 2, 50, 3, 50, 4, 50, 5, 50, 6, 50, 7, 50, 8, 50, 9, 50, 10), nil,
			[][]int{{9}, {8}, {7}, {6}, {5}, {4}, {3}, {2}, {1}, {0}},
			numsOf("1/5", "9/50", "4/25", "7/50", "3/25", "1/10", "2/25", "3/50", "1/25", "1/50")},
	} {
		if sets := sidneyOf(t, c.jobs, c.pairs); !same(sets, c.sets) {
			t.Errorf("Sidney(%v, %v) = %v, want %v", c.jobs, c.pairs, sets, c.sets)
		}
		if ratios := ratiosOf(t, c.jobs, c.pairs); !slices.Equal(ratios, c.ratios) {
			t.Errorf("Ratios(%v, %v) = %v, want %v", c.jobs, c.pairs, ratios, c.ratios)
		}
	}
}

// parts yields all sets of some jobs but the empty one.
func parts(list []int) func(yield func([]int) bool) {
	return func(yield func([]int) bool) {
		for number := 1; number < 1<<len(list); number++ {
			var part []int
			for i, job := range list {
				if number>>i&1 == 1 {
					part = append(part, job)
				}
			}
			if !yield(part) {
				return
			}
		}
	}
}

// begins reports whether a part of the jobs that are left is a beginning of them.
func begins(part, left []int, pairs []api.Pair) bool {
	return !slices.ContainsFunc(pairs, func(p api.Pair) bool {
		return slices.Contains(part, p.B) && slices.Contains(left, p.A) && !slices.Contains(part, p.A)
	})
}

func ratioOf(jobs []api.Job, part []int) *big.Rat {
	weight, length := int64(0), int64(0)
	for _, job := range part {
		weight += int64(jobs[job].Weight)
		length += int64(jobs[job].Length)
	}
	return big.NewRat(weight, length)
}

// wantSidney returns the decomposition: each time the union of all beginnings with the greatest ratio.
func wantSidney(jobs []api.Job, pairs []api.Pair) ([][]int, []api.Num) {
	var sets [][]int
	var ratios []api.Num
	left := upTo(len(jobs))
	for len(left) > 0 {
		var union []int
		greatest := whole(-1)
		for part := range parts(left) {
			if !begins(part, left, pairs) {
				continue
			}
			ratio := ratioOf(jobs, part)
			if ratio.Cmp(greatest) > 0 {
				union, greatest = nil, ratio
			}
			if ratio.Cmp(greatest) == 0 {
				union = append(union, part...)
			}
		}
		slices.Sort(union)
		union = slices.Compact(union)
		sets = append(sets, union)
		ratios = append(ratios, numOf(greatest))
		left = slices.DeleteFunc(left, func(job int) bool { return slices.Contains(union, job) })
	}
	return sets, ratios
}

// checkSidney compares Sidney and Ratios with all beginnings, and checks M2 (P2).
func checkSidney(t *testing.T, jobs []api.Job, pairs []api.Pair) {
	t.Helper()
	sets, ratios := sidneyOf(t, jobs, pairs), ratiosOf(t, jobs, pairs)
	wantSets, wantRatios := wantSidney(jobs, pairs)
	if !same(sets, wantSets) || !slices.Equal(ratios, wantRatios) {
		t.Fatalf("%v, %v: Sidney %v, Ratios %v, want %v, %v", jobs, pairs, sets, ratios, wantSets, wantRatios)
	}
	for i := 1; i < len(ratios); i++ {
		if ratOf(t, ratios[i]).Cmp(ratOf(t, ratios[i-1])) >= 0 {
			t.Fatalf("Ratios(%v, %v) = %v", jobs, pairs, ratios)
		}
	}
	var order []int
	for _, set := range sets {
		own, _ := bestOf(t, partOf(jobs, set), pairsWithin(pairs, set))
		for _, at := range own {
			order = append(order, set[at])
		}
	}
	if _, least := bestOf(t, jobs, pairs); costOf(t, jobs, pairs, order) != least {
		t.Fatalf("%v, %v: %v is not best, after %v", jobs, pairs, order, sets)
	}
}

func partOf(jobs []api.Job, set []int) []api.Job {
	var part []api.Job
	for _, job := range set {
		part = append(part, jobs[job])
	}
	return part
}

// pairsWithin returns the pairs of jobs of a set, which are numbered anew.
func pairsWithin(pairs []api.Pair, set []int) []api.Pair {
	var within []api.Pair
	for _, p := range pairs {
		if a, b := slices.Index(set, p.A), slices.Index(set, p.B); a >= 0 && b >= 0 {
			within = append(within, api.Pair{A: a, B: b})
		}
	}
	return within
}

// TestGreatSets: MaxJobs jobs, of few ratios, so that sets of several jobs have the same one.
func TestGreatSets(t *testing.T) {
	r := rand.New(rand.NewSource(7))
	several := 0
	for range 60 {
		jobs, pairs := someJobs(r, api.MaxJobs, 1+r.Intn(4)), somePairs(r, api.MaxJobs, r.Intn(15))
		checkSidney(t, jobs, pairs)
		for _, set := range sidneyOf(t, jobs, pairs) {
			if len(set) > 1 && len(set) < api.MaxJobs {
				several++
			}
		}
	}
	if several < 50 {
		t.Errorf("only %d sets of several jobs", several)
	}
}
