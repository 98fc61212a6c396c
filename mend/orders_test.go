package mend

import (
	"math/rand"
	"slices"
	"testing"

	"pommel/api"
)

func TestExamples(t *testing.T) {
	jobs, pairs := jobsOf(3, 1, 1, 1), pairsOf(0, 1)
	if order, cost := bestOf(t, jobs, nil); !slices.Equal(order, []int{1, 0}) || cost != 5 {
		t.Errorf("Best = %v, %d", order, cost)
	}
	if order, cost := bestOf(t, jobs, pairs); !slices.Equal(order, []int{0, 1}) || cost != 7 {
		t.Errorf("Best = %v, %d", order, cost)
	}
	if sets := sidneyOf(t, jobs, pairs); !same(sets, [][]int{{0, 1}}) {
		t.Errorf("Sidney = %v", sets)
	}
	if ratios := ratiosOf(t, jobs, pairs); !slices.Equal(ratios, numsOf("1/2")) {
		t.Errorf("Ratios = %v", ratios)
	}
	c := chance(2, "1/2 1/2")
	if index, d := indexOf(t, c, 0); index != "4/3" || d != 2 {
		t.Errorf("Index = %s, %d", index, d)
	}
	if index, d := indexOf(t, c, 1); index != "2" || d != 1 {
		t.Errorf("Index = %s, %d", index, d)
	}
	if mean := meanOf(t, Value, []api.Chance{c}); mean != "3" {
		t.Errorf("Value = %s", mean)
	}
}

func TestCost(t *testing.T) {
	four := jobsOf(1, 5, 2, 4, 3, 3, 4, 0)
	for _, c := range []struct {
		jobs  []api.Job
		order []int
		want  int
	}{
		{jobsOf(1, 0), []int{0}, 0},
		{jobsOf(1, 1), []int{0}, 1},
		{jobsOf(50, 50), []int{0}, 2500},
		{jobsOf(1, 50), []int{0}, 50},
		{jobsOf(50, 0), []int{0}, 0},
		{jobsOf(3, 1, 1, 1), []int{0, 1}, 7},
		{jobsOf(3, 1, 1, 1), []int{1, 0}, 5},
		{four, []int{0, 1, 2, 3}, 35},
		{four, []int{3, 2, 1, 0}, 21 + 36 + 50},
		{four, []int{1, 3, 0, 2}, 8 + 35 + 30},
		{slices.Repeat(jobsOf(50, 50), api.MaxJobs), upTo(api.MaxJobs), 2500 * 55},
	} {
		if got := costOf(t, c.jobs, nil, c.order); got != c.want {
			t.Errorf("Cost(%v, %v) = %d, want %d", c.jobs, c.order, got, c.want)
		}
	}
}

func TestBestKnown(t *testing.T) {
	for _, c := range []struct {
		jobs  []api.Job
		pairs []api.Pair
		order []int
		cost  int
		count int
	}{
		{jobsOf(1, 0), nil, []int{0}, 0, 1},
		{jobsOf(50, 50), nil, []int{0}, 2500, 1},
		{jobsOf(2, 3, 2, 3, 2, 3), nil, []int{0, 1, 2}, 36, 6},                       // all orders cost the same
		{jobsOf(2, 3, 2, 3, 2, 3), pairsOf(2, 0), []int{1, 2, 0}, 36, 3},             // the least one of some
		{jobsOf(2, 3, 2, 3, 2, 3), pairsOf(2, 0, 2, 0), []int{1, 2, 0}, 36, 3},       // the same pair twice
		{jobsOf(2, 3, 2, 3, 2, 3), pairsOf(2, 1, 1, 0), []int{2, 1, 0}, 36, 1},       // a chain
		{jobsOf(2, 3, 2, 3, 2, 3), pairsOf(2, 1, 1, 0, 2, 0), []int{2, 1, 0}, 36, 1}, // and what follows from it
		{jobsOf(1, 1, 2, 2, 4, 4), nil, []int{0, 1, 2}, 35, 6},                       // the same ratio
		{jobsOf(4, 4, 2, 2, 1, 1), nil, []int{0, 1, 2}, 35, 6},                       // the same ratio
		{jobsOf(3, 0, 1, 0, 2, 0), pairsOf(1, 0), []int{1, 0, 2}, 0, 3},              // no weight
		{jobsOf(1, 0, 5, 1, 1, 9), pairsOf(1, 2), []int{1, 2, 0}, 59, 3},             // a long job first, for a heavy one
		{jobsOf(1, 3, 5, 0, 1, 18), pairsOf(1, 2), []int{0, 1, 2}, 129, 3},           // another one costs the same
		{jobsOf(1, 4, 5, 0, 1, 18), pairsOf(1, 2), []int{0, 1, 2}, 130, 3},
		{jobsOf(1, 2, 5, 0, 1, 18), pairsOf(1, 2), []int{1, 2, 0}, 122, 3},
		{jobsOf(2, 3, 1, 1, 3, 4, 2, 2), pairsOf(1, 0, 3, 2), []int{1, 0, 3, 2}, 52, 6}, // two chains
		{jobsOf(1, 3, 1, 3, 1, 1, 1, 1), pairsOf(2, 0, 3, 1), []int{2, 0, 3, 1}, 22, 6}, // two chains alike
		{slices.Repeat(jobsOf(1, 1), 10), nil, upTo(10), 55, 3628800},                   // as many orders as there can be
		{slices.Repeat(jobsOf(50, 50), 10), chain(10), upTo(10), 137500, 1},             // the greatest cost
		{slices.Repeat(jobsOf(50, 50), 10), pairsOf(9, 0), []int{1, 2, 3, 4, 5, 6, 7, 8, 9, 0}, 137500, 1814400},
	} {
		order, cost := bestOf(t, c.jobs, c.pairs)
		if count := ordersOf(t, c.jobs, c.pairs); !slices.Equal(order, c.order) || cost != c.cost || count != c.count {
			t.Errorf("%v, %v: Best %v, %d, Orders %d, want %v, %d, %d", c.jobs, c.pairs, order, cost, count, c.order, c.cost, c.count)
		}
	}
}

// checkBest compares Best, Orders and Cost with all orders, and checks M1 (P1, P3).
func checkBest(t *testing.T, jobs []api.Job, pairs []api.Pair) {
	t.Helper()
	order, cost := bestOf(t, jobs, pairs)
	best, least, count := wantBest(jobs, pairs)
	if !slices.Equal(order, best) || cost != least {
		t.Fatalf("Best(%v, %v) = %v, %d, want %v, %d", jobs, pairs, order, cost, best, least)
	}
	if got := ordersOf(t, jobs, pairs); got != count {
		t.Fatalf("Orders(%v, %v) = %d, want %d", jobs, pairs, got, count)
	}
	if got := costOf(t, jobs, pairs, order); got != cost {
		t.Fatalf("%v, %v: Cost %d, Best %d", jobs, pairs, got, cost)
	}
	for i := range order {
		if len(pairs) == 0 && i > 0 {
			a, b := jobs[order[i-1]], jobs[order[i]]
			if a.Weight*b.Length < b.Weight*a.Length || a.Weight*b.Length == b.Weight*a.Length && order[i-1] > order[i] {
				t.Fatalf("Best(%v) = %v", jobs, order)
			}
		}
	}
}

// checkAll checks all that is computed of jobs; pairs around a ring have no order.
func checkAll(t *testing.T, jobs []api.Job, pairs []api.Pair) {
	t.Helper()
	isRing := true
	for range eachOrder(len(jobs), pairs) {
		isRing = false
		break
	}
	if isRing {
		checkPlan(t, jobs, pairs, nil, api.ErrArg)
		return
	}
	checkBest(t, jobs, pairs)
	checkSidney(t, jobs, pairs)
}

// TestSmallPlans: all jobs of small lengths and weights, with all pairs.
func TestSmallPlans(t *testing.T) {
	kinds := jobsOf(1, 0, 1, 1, 1, 2, 2, 0, 2, 1, 2, 2)
	for a := range kinds {
		checkAll(t, []api.Job{kinds[a]}, nil)
		for b := range kinds {
			for pairs := range allPairs(2) {
				checkAll(t, []api.Job{kinds[a], kinds[b]}, pairs)
			}
			for c := range kinds {
				for pairs := range allPairs(3) {
					checkAll(t, []api.Job{kinds[a], kinds[b], kinds[c]}, pairs)
				}
			}
		}
	}
	for pairs := range allPairs(4) {
		checkAll(t, jobsOf(2, 1, 1, 3, 3, 2, 1, 1), pairs)
	}
}

func TestSomePlans(t *testing.T) {
	r := rand.New(rand.NewSource(1))
	for i := range 400 {
		n := 1 + i%7
		most := []int{1, 2, 5, api.MaxLength}[r.Intn(4)]
		checkAll(t, someJobs(r, n, most), nil)
		checkAll(t, someJobs(r, n, most), somePairs(r, n, r.Intn(2*n)))
	}
	for range 20 {
		checkAll(t, someJobs(r, api.MaxJobs, api.MaxLength), somePairs(r, api.MaxJobs, api.MaxPairs))
		checkAll(t, someJobs(r, api.MaxJobs, api.MaxLength), mostPairs(r))
	}
}

// mostPairs returns MaxPairs different pairs of MaxJobs jobs, not around a ring.
func mostPairs(r *rand.Rand) []api.Pair {
	var pairs []api.Pair
	order := r.Perm(api.MaxJobs)
	for b := range order {
		for a := range b {
			pairs = append(pairs, api.Pair{A: order[a], B: order[b]})
		}
	}
	r.Shuffle(len(pairs), func(i, j int) { pairs[i], pairs[j] = pairs[j], pairs[i] })
	return pairs[:api.MaxPairs]
}

// TestCosts: Cost of each order, and of other permutations.
func TestCosts(t *testing.T) {
	r := rand.New(rand.NewSource(2))
	for range 40 {
		n := 1 + r.Intn(5)
		jobs, pairs := someJobs(r, n, api.MaxLength), somePairs(r, n, r.Intn(n+1))
		costs := map[[5]int]int{}
		for order := range eachOrder(n, pairs) {
			costs[fixed(order)] = wantCost(jobs, order)
		}
		for order := range eachOrder(n, nil) {
			want, ok := costs[fixed(order)]
			cost, e := Cost(jobs, pairs, order)
			if ok && (e != api.OK || cost != want) || !ok && (e != api.ErrForm || cost != 0) {
				t.Fatalf("Cost(%v, %v, %v) = %d, %d, want %d, %t", jobs, pairs, order, cost, e, want, ok)
			}
		}
	}
}

func fixed(order []int) [5]int {
	var key [5]int
	copy(key[:], order)
	return key
}

// TestSmith: M1, for MaxJobs jobs.
func TestSmith(t *testing.T) {
	r := rand.New(rand.NewSource(3))
	for range 50 {
		jobs := someJobs(r, api.MaxJobs, []int{3, 10, api.MaxLength}[r.Intn(3)])
		order, cost := bestOf(t, jobs, nil)
		want := upTo(api.MaxJobs)
		slices.SortStableFunc(want, func(a, b int) int {
			return jobs[b].Weight*jobs[a].Length - jobs[a].Weight*jobs[b].Length
		})
		if !slices.Equal(order, want) || cost != wantCost(jobs, want) {
			t.Fatalf("Best(%v) = %v, %d, want %v", jobs, order, cost, want)
		}
	}
}

// TestPairs: M3: a pair more, not around a ring.
func TestPairs(t *testing.T) {
	r := rand.New(rand.NewSource(4))
	for range 200 {
		n := 2 + r.Intn(api.MaxJobs-1)
		jobs, pairs := someJobs(r, n, 9), somePairs(r, n, api.MaxPairs)
		_, least := bestOf(t, jobs, nil)
		most := ordersOf(t, jobs, nil)
		for i := range pairs {
			_, cost := bestOf(t, jobs, pairs[:i+1])
			count := ordersOf(t, jobs, pairs[:i+1])
			if cost < least || count > most || count < 1 {
				t.Fatalf("%v, %v: %d after %d, %d orders after %d", jobs, pairs[:i+1], cost, least, count, most)
			}
			least, most = cost, count
		}
	}
}

// TestTurned: M4.
func TestTurned(t *testing.T) {
	r := rand.New(rand.NewSource(5))
	for range 200 {
		n := 1 + r.Intn(api.MaxJobs)
		jobs, pairs := someJobs(r, n, 1+r.Intn(api.MaxLength)), somePairs(r, n, r.Intn(20))
		var turned []api.Job
		var reversed []api.Pair
		for i := range jobs {
			jobs[i].Weight = max(jobs[i].Weight, 1)
			turned = append(turned, api.Job{Length: jobs[i].Weight, Weight: jobs[i].Length})
		}
		for _, p := range pairs {
			reversed = append(reversed, api.Pair{A: p.B, B: p.A})
		}
		_, cost := bestOf(t, jobs, pairs)
		if _, other := bestOf(t, turned, reversed); other != cost {
			t.Fatalf("%v, %v: %d, turned %d", jobs, pairs, cost, other)
		}
		if ordersOf(t, jobs, pairs) != ordersOf(t, turned, reversed) {
			t.Fatalf("%v, %v: other orders if turned", jobs, pairs)
		}
	}
}

// TestBlocks: M8: two sets of jobs that no pair joins, their numbers mixed.
func TestBlocks(t *testing.T) {
	r := rand.New(rand.NewSource(6))
	for range 300 {
		n := 2 + r.Intn(api.MaxJobs-1)
		size := 1 + r.Intn(n-1)
		jobs, to := someJobs(r, n, 9), r.Perm(n)
		one, two := somePairs(r, size, r.Intn(12)), somePairs(r, n-size, r.Intn(12))
		var pairs []api.Pair
		for _, p := range one {
			pairs = append(pairs, api.Pair{A: to[p.A], B: to[p.B]})
		}
		for _, p := range two {
			pairs = append(pairs, api.Pair{A: to[size+p.A], B: to[size+p.B]})
		}
		want := ordersOf(t, jobs[:size], one) * ordersOf(t, jobs[size:], two) * shuffles(size, n-size)
		if got := ordersOf(t, jobs, pairs); got != want {
			t.Fatalf("Orders of %d jobs, %v = %d, want %d", n, pairs, got, want)
		}
	}
}

// shuffles returns how many shuffles of two lists of such lengths there are.
func shuffles(a, b int) int {
	if a == 0 || b == 0 {
		return 1
	}
	return shuffles(a-1, b) + shuffles(a, b-1)
}
