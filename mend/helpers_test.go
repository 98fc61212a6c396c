package mend

import (
	"math/big"
	"math/rand"
	"slices"
	"strings"
	"testing"

	"pommel/api"
)

// jobsOf returns jobs of which the lengths and the weights are given in turns.
func jobsOf(numbers ...int) []api.Job {
	var jobs []api.Job
	for i := 0; i < len(numbers); i += 2 {
		jobs = append(jobs, api.Job{Length: numbers[i], Weight: numbers[i+1]})
	}
	return jobs
}

func pairsOf(numbers ...int) []api.Pair {
	var pairs []api.Pair
	for i := 0; i < len(numbers); i += 2 {
		pairs = append(pairs, api.Pair{A: numbers[i], B: numbers[i+1]})
	}
	return pairs
}

// chain returns the pairs that put n jobs in the order of their numbers.
func chain(n int) []api.Pair {
	var pairs []api.Pair
	for job := 1; job < n; job++ {
		pairs = append(pairs, api.Pair{A: job - 1, B: job})
	}
	return pairs
}

func upTo(n int) []int {
	var list []int
	for i := range n {
		list = append(list, i)
	}
	return list
}

// someJobs returns n random jobs with lengths and weights of up to most.
func someJobs(r *rand.Rand, n, most int) []api.Job {
	var jobs []api.Job
	for range n {
		jobs = append(jobs, api.Job{Length: 1 + r.Intn(most), Weight: r.Intn(most + 1)})
	}
	return jobs
}

// somePairs returns random pairs of n jobs, not around a ring.
func somePairs(r *rand.Rand, n, count int) []api.Pair {
	var pairs []api.Pair
	order := r.Perm(n)
	for range count {
		if a, b := r.Intn(n), r.Intn(n); a < b {
			pairs = append(pairs, api.Pair{A: order[a], B: order[b]})
		}
	}
	return pairs
}

// allPairs yields all sets of pairs of n jobs, also those around a ring.
func allPairs(n int) func(yield func([]api.Pair) bool) {
	return func(yield func([]api.Pair) bool) {
		var every []api.Pair
		for a := range n {
			for b := range n {
				if a != b {
					every = append(every, api.Pair{A: a, B: b})
				}
			}
		}
		for number := range 1 << len(every) {
			var pairs []api.Pair
			for i, pair := range every {
				if number>>i&1 == 1 {
					pairs = append(pairs, pair)
				}
			}
			if !yield(pairs) {
				return
			}
		}
	}
}

// eachOrder yields the orders of n jobs, lexicographically. The slice is used again.
func eachOrder(n int, pairs []api.Pair) func(yield func([]int) bool) {
	return func(yield func([]int) bool) {
		ended := make([]bool, n)
		var order []int
		canBegin := func(job int) bool {
			return !ended[job] && !slices.ContainsFunc(pairs, func(p api.Pair) bool { return p.B == job && !ended[p.A] })
		}
		var more func() bool
		more = func() bool {
			if len(order) == n {
				return yield(order)
			}
			for job := range n {
				if !canBegin(job) {
					continue
				}
				ended[job] = true
				order = append(order, job)
				if !more() {
					return false
				}
				order = order[:len(order)-1]
				ended[job] = false
			}
			return true
		}
		more()
	}
}

// wantCost returns the cost of an order, by the lengths that each job waits for.
func wantCost(jobs []api.Job, order []int) int {
	cost := 0
	for i, job := range order {
		for _, earlier := range order[:i+1] {
			cost += jobs[job].Weight * jobs[earlier].Length
		}
	}
	return cost
}

// wantBest returns the first order with the least cost, that cost, and how many orders there are (0 if there is none).
func wantBest(jobs []api.Job, pairs []api.Pair) ([]int, int, int) {
	var best []int
	least, count := 0, 0
	for order := range eachOrder(len(jobs), pairs) {
		count++
		if cost := wantCost(jobs, order); best == nil || cost < least {
			best, least = slices.Clone(order), cost
		}
	}
	return best, least, count
}

func numOf(x *big.Rat) api.Num {
	return api.Num(strings.TrimSuffix(x.String(), "/1"))
}

func numsOf(texts ...string) []api.Num {
	var nums []api.Num
	for _, text := range texts {
		nums = append(nums, api.Num(text))
	}
	return nums
}

func ratOf(t *testing.T, n api.Num) *big.Rat {
	t.Helper()
	x, ok := new(big.Rat).SetString(string(n))
	if !ok || numOf(x) != n {
		t.Fatalf("%q is no valid Num", n)
	}
	return x
}

func whole(n int) *big.Rat {
	return big.NewRat(int64(n), 1)
}

func plus(a, b *big.Rat) *big.Rat {
	return new(big.Rat).Add(a, b)
}

func times(a, b *big.Rat) *big.Rat {
	return new(big.Rat).Mul(a, b)
}

// chance returns a chance of which the Nums are given with spaces in between.
func chance(weight int, lengths string) api.Chance {
	return api.Chance{Lengths: numsOf(strings.Fields(lengths)...), Weight: weight}
}

// sure returns a job that takes just n.
func sure(n, weight int) api.Chance {
	return chance(weight, strings.Repeat("0 ", n-1)+"1")
}

// someChance returns a job with so many random lengths, whose chances are parts of a random number of up to most.
func someChance(r *rand.Rand, lengths, weight, most int) api.Chance {
	one := 1 + r.Intn(most)
	parts := make([]int, lengths)
	parts[lengths-1] = 1 + r.Intn(one)
	left := one - parts[lengths-1]
	for i := range lengths - 1 {
		parts[i] = r.Intn(left + 1)
		left -= parts[i]
	}
	parts[r.Intn(lengths)] += left
	r.Shuffle(lengths-1, func(i, j int) { parts[i], parts[j] = parts[j], parts[i] })
	c := api.Chance{Weight: weight}
	for _, part := range parts {
		c.Lengths = append(c.Lengths, numOf(big.NewRat(int64(part), int64(one))))
	}
	return c
}

// someChances returns n random jobs with up to so many lengths.
func someChances(r *rand.Rand, n, lengths int) []api.Chance {
	var l []api.Chance
	most := []int{1, 2, 6, 60, 9999}[r.Intn(5)]
	for range n {
		l = append(l, someChance(r, 1+r.Intn(lengths), r.Intn([]int{1, 3, api.MaxLength}[r.Intn(3)]+1), most))
	}
	return l
}

// The functions, of arguments without an error.

func costOf(t *testing.T, jobs []api.Job, pairs []api.Pair, order []int) int {
	t.Helper()
	cost, e := Cost(jobs, pairs, order)
	check(t, e, jobs, pairs, order)
	return cost
}

func bestOf(t *testing.T, jobs []api.Job, pairs []api.Pair) ([]int, int) {
	t.Helper()
	order, cost, e := Best(jobs, pairs)
	check(t, e, jobs, pairs)
	return order, cost
}

func sidneyOf(t *testing.T, jobs []api.Job, pairs []api.Pair) [][]int {
	t.Helper()
	sets, e := Sidney(jobs, pairs)
	check(t, e, jobs, pairs)
	return sets
}

func ratiosOf(t *testing.T, jobs []api.Job, pairs []api.Pair) []api.Num {
	t.Helper()
	ratios, e := Ratios(jobs, pairs)
	check(t, e, jobs, pairs)
	return ratios
}

func ordersOf(t *testing.T, jobs []api.Job, pairs []api.Pair) int {
	t.Helper()
	count, e := Orders(jobs, pairs)
	check(t, e, jobs, pairs)
	return count
}

func indexOf(t *testing.T, c api.Chance, age int) (api.Num, int) {
	t.Helper()
	index, d, e := Index(c, age)
	check(t, e, c, age)
	return index, d
}

// meanOf returns what Value or Follow returns.
func meanOf(t *testing.T, of func([]api.Chance) (api.Num, api.Errno), l []api.Chance) api.Num {
	t.Helper()
	mean, e := of(l)
	check(t, e, l)
	return mean
}

func chooseOf(t *testing.T, l []api.Chance, ages []int) int {
	t.Helper()
	job, e := Choose(l, ages)
	check(t, e, l, ages)
	return job
}

func check(t *testing.T, e api.Errno, arguments ...any) {
	t.Helper()
	if e != api.OK {
		t.Fatalf("%v: error %d", arguments, e)
	}
}
