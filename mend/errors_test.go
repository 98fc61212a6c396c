package mend

import (
	"fmt"
	"math"
	"math/rand"
	"slices"
	"strings"
	"testing"

	"pommel/api"
)

// planned are the results of the functions of jobs, for any arguments.
type planned struct {
	cost, least, count int
	order              []int
	sets               [][]int
	ratios             []api.Num
	errors             [5]api.Errno
}

func allPlanned(jobs []api.Job, pairs []api.Pair, order []int) planned {
	var x planned
	e := &x.errors
	x.cost, e[0] = Cost(jobs, pairs, order)
	x.order, x.least, e[1] = Best(jobs, pairs)
	x.sets, e[2] = Sidney(jobs, pairs)
	x.ratios, e[3] = Ratios(jobs, pairs)
	x.count, e[4] = Orders(jobs, pairs)
	return x
}

// guessed are the results of the functions of chances, for any arguments.
type guessed struct {
	index, value, follow api.Num
	d, job               int
	errors               [4]api.Errno
}

func allGuessed(l []api.Chance, ages []int) guessed {
	var x guessed
	e := &x.errors
	if len(l) > 0 && len(ages) > 0 {
		x.index, x.d, e[0] = Index(l[0], ages[0])
	}
	x.value, e[1] = Value(l)
	x.job, e[2] = Choose(l, ages)
	x.follow, e[3] = Follow(l)
	return x
}

// checkZero checks that what comes with an error is a zero value (R3).
func (x planned) checkZero(t *testing.T) {
	t.Helper()
	rests := []int{x.cost, x.least + len(x.order), len(x.sets), len(x.ratios), x.count}
	for i, rest := range rests {
		if x.errors[i] != api.OK && rest != 0 {
			t.Errorf("function %d: %v", i, x)
		}
	}
}

func (x guessed) checkZero(t *testing.T) {
	t.Helper()
	rests := []int{len(x.index) + x.d, len(x.value), x.job, len(x.follow)}
	for i, rest := range rests {
		if x.errors[i] != api.OK && rest != 0 {
			t.Errorf("function %d: %v", i, x)
		}
	}
}

// spoil writes over all memory of the results, also beyond the ends of the slices.
func (x planned) spoil() {
	clear(x.order[:cap(x.order)])
	for _, set := range x.sets[:cap(x.sets)] {
		clear(set[:cap(set)])
	}
	clear(x.sets[:cap(x.sets)])
	clear(x.ratios[:cap(x.ratios)])
}

// checkPlan checks the errors of all functions of jobs. Without an order, Cost gets one that is malformed.
func checkPlan(t *testing.T, jobs []api.Job, pairs []api.Pair, order []int, want api.Errno) {
	t.Helper()
	x := allPlanned(jobs, pairs, order)
	x.checkZero(t)
	all := [5]api.Errno{want, want, want, want, want}
	if want == api.OK && order == nil {
		all[0] = api.ErrForm
	}
	if x.errors != all {
		t.Errorf("%v, %v, %v: errors %v, want %v", jobs, pairs, order, x.errors, all)
	}
}

func TestJobErrors(t *testing.T) {
	one := jobsOf(1, 1)
	for _, jobs := range [][]api.Job{
		nil, {}, jobsOf(0, 1), jobsOf(-1, 1), jobsOf(51, 1), jobsOf(1, -1), jobsOf(1, 51), jobsOf(0, 0), jobsOf(math.MinInt, 1), jobsOf(math.MaxInt, 1),
		jobsOf(1, math.MinInt), jobsOf(1, math.MaxInt), slices.Repeat(one, api.MaxJobs+1), slices.Repeat(one, 64), slices.Repeat(one, 65), slices.Repeat(one, 1000),
	} {
		checkPlan(t, jobs, nil, upTo(len(jobs)), api.ErrArg)
		checkPlan(t, jobs, nil, nil, api.ErrArg)
		checkPlan(t, jobs, nil, []int{7, -1}, api.ErrArg)
		checkPlan(t, jobs, pairsOf(0, 0), nil, api.ErrArg)
	}
	for n := 1; n <= api.MaxJobs; n++ {
		for _, job := range jobsOf(1, 0, 1, 50, 50, 0, 50, 50) {
			checkPlan(t, slices.Repeat([]api.Job{job}, n), nil, upTo(n), api.OK)
		}
		for at := range n {
			for _, wrong := range jobsOf(0, 1, 51, 1, 1, -1, 1, 51) {
				jobs := slices.Repeat(one, n)
				jobs[at] = wrong
				checkPlan(t, jobs, nil, upTo(n), api.ErrArg)
			}
		}
	}
}

func TestPairErrors(t *testing.T) {
	jobs := jobsOf(1, 1, 2, 2, 3, 3, 4, 4)
	for _, pairs := range [][]api.Pair{
		pairsOf(0, 0), pairsOf(3, 3), pairsOf(0, 4), pairsOf(4, 0), pairsOf(-1, 0), pairsOf(0, -1), pairsOf(4, 4), pairsOf(-1, -1), pairsOf(0, 64), pairsOf(64, 0),
		pairsOf(math.MinInt, 0), pairsOf(0, math.MinInt), pairsOf(math.MaxInt, 0), pairsOf(0, math.MaxInt), pairsOf(1<<32, 1), pairsOf(1, 1<<32),
		pairsOf(0, 1, 1, 0), pairsOf(2, 3, 3, 2), pairsOf(0, 1, 1, 2, 2, 0), pairsOf(0, 1, 1, 2, 2, 3, 3, 0), pairsOf(3, 2, 2, 1, 1, 3), pairsOf(0, 3, 3, 1, 1, 2, 2, 3),
		pairsOf(0, 1, 0, 1, 0, 4), pairsOf(0, 1, 1, 2, 3, 3), slices.Repeat(pairsOf(0, 1), api.MaxPairs+1), slices.Repeat(pairsOf(0, 1), 1000),
		append(slices.Repeat(pairsOf(0, 1), api.MaxPairs-1), pairsOf(1, 0)...),
	} {
		checkPlan(t, jobs, pairs, upTo(4), api.ErrArg)
		checkPlan(t, jobs, pairs, nil, api.ErrArg)
		checkPlan(t, jobs, pairs, []int{0, 0}, api.ErrArg)
	}
	for _, pairs := range [][]api.Pair{
		nil, {}, pairsOf(0, 1), pairsOf(0, 3), pairsOf(0, 1, 0, 1), chain(4), pairsOf(0, 1, 0, 2, 0, 3, 1, 2, 1, 3, 2, 3), pairsOf(0, 2, 1, 2, 0, 3, 1, 3),
		slices.Repeat(pairsOf(0, 1), api.MaxPairs), slices.Repeat(chain(3), api.MaxPairs/2),
	} {
		checkPlan(t, jobs, pairs, upTo(4), api.OK)
		checkPlan(t, jobs, pairs, nil, api.OK)
	}
	ten := slices.Repeat(jobsOf(1, 1), api.MaxJobs)
	checkPlan(t, ten, chain(10), upTo(10), api.OK)
	checkPlan(t, ten, append(chain(10), pairsOf(9, 0)...), upTo(10), api.ErrArg)
	checkPlan(t, jobsOf(1, 1), pairsOf(0, 0), []int{0}, api.ErrArg)
	checkPlan(t, nil, pairsOf(0, 0), nil, api.ErrArg)
}

func TestOrderErrors(t *testing.T) {
	jobs := jobsOf(1, 1, 2, 2, 3, 3)
	for _, order := range [][]int{
		nil, {}, {0}, {0, 1}, {0, 1, 2, 0}, {0, 1, 2, 3}, {0, 1, 1}, {0, 0, 1}, {2, 2, 2}, {0, 1, 3}, {-1, 0, 1}, {0, 1, -1}, {1, 2, 3}, {0, 2, 1, 1},
		{0, 1, 64}, {0, 1, 1 << 32}, {0, 1, math.MaxInt}, {math.MinInt, 1, 2}, make([]int, 1000), upTo(1000),
	} {
		if cost, e := Cost(jobs, nil, order); e != api.ErrForm || cost != 0 {
			t.Errorf("Cost of %v = %d, %d", order, cost, e)
		}
	}
	for _, c := range []struct {
		pairs []api.Pair
		order []int
		want  api.Errno
	}{
		{pairsOf(0, 1), []int{0, 1, 2}, api.OK},
		{pairsOf(0, 1), []int{0, 2, 1}, api.OK},
		{pairsOf(0, 1), []int{1, 0, 2}, api.ErrForm}, // against a pair
		{pairsOf(0, 1), []int{1, 2, 0}, api.ErrForm},
		{pairsOf(1, 0), []int{0, 1, 2}, api.ErrForm},
		{pairsOf(1, 0), []int{2, 1, 0}, api.OK},
		{pairsOf(0, 1, 1, 2), []int{0, 2, 1}, api.ErrForm},
		{pairsOf(0, 1, 1, 2), []int{0, 1, 2}, api.OK},
		{pairsOf(2, 0, 2, 0), []int{2, 1, 0}, api.OK},
		{pairsOf(2, 0, 2, 0), []int{0, 1, 2}, api.ErrForm},
		{pairsOf(0, 1, 1, 0), []int{0, 1, 2}, api.ErrArg}, // R2
		{pairsOf(0, 1, 1, 0), []int{0, 0, 2}, api.ErrArg},
	} {
		if cost, e := Cost(jobs, c.pairs, c.order); e != c.want || (e != api.OK) != (cost == 0) {
			t.Errorf("Cost of %v, %v = %d, %d, want %d", c.pairs, c.order, cost, e, c.want)
		}
	}
}

// checkChances checks the errors of all functions of chances.
func checkChances(t *testing.T, l []api.Chance, ages []int, want [4]api.Errno) {
	t.Helper()
	x := allGuessed(l, ages)
	x.checkZero(t)
	if x.errors != want {
		t.Errorf("%v, %v: errors %v, want %v", l, ages, x.errors, want)
	}
}

// each returns the same error of each function.
func each(e api.Errno) [4]api.Errno {
	return [4]api.Errno{e, e, e, e}
}

// others returns the same error of each function but Index, which has only the first job and age, if there are any.
func others(e api.Errno) [4]api.Errno {
	return [4]api.Errno{api.OK, e, e, e}
}

// oddNums are Nums that are not valid.
func oddNums() []api.Num {
	zeros := strings.Repeat("0", api.MaxDigits)
	return numsOf("", "-", "-0", "+1", "01", "00", "1/1", "0/1", "1/0", "0/2", "2/4", "4/2", "1/02", "1/-2", "-2/4", "1/", "/2", " 1", "1 ", "0.5", "1e0", "x", "1/2/2", "--1",
		"\x00", "\uff11", "1"+zeros, "-1"+zeros, "1/1"+zeros, "10000/20000")
}

func TestNumErrors(t *testing.T) {
	good := chance(1, "1/2 1/2")
	for _, n := range oddNums() {
		for _, c := range []api.Chance{
			{Lengths: []api.Num{n}}, {Lengths: []api.Num{"1/2", n}}, {Lengths: []api.Num{n, "1"}, Weight: 51}, {Lengths: []api.Num{"-1", "10000", "0", n}, Weight: -1},
			{Lengths: append(good.Lengths, slices.Repeat([]api.Num{n}, api.MaxChance)...)},
		} {
			for _, age := range []int{0, -1, 5, math.MaxInt} {
				checkChances(t, []api.Chance{c}, []int{age}, each(api.ErrForm))
			}
			checkChances(t, []api.Chance{c, good, good, good}, []int{0}, each(api.ErrForm))
			checkChances(t, []api.Chance{good, {}, good, good, c}, []int{0, 0}, others(api.ErrForm))
		}
	}
}

// wrongLengths are valid Nums that are not the chances of a job.
func wrongLengths() []string {
	return []string{
		"", "0", "2", "-1", "1/2", "3/2", "1 0", "1/2 1/2 0", "1/2 1/3", "1/2 2/3", "1 1", "0 0", "1 -1 1", "-1/2 3/2", "3/2 -1/2", "2 -1", "1/3 1/3 1/3 0 0",
		"1/10000 9999/10000", "9999/10000 1/10000", "10000", "1/10001 10000/10001", "-9999 10000", "0 0 0 0 0 0 0 0 1", "1/9 1/9 1/9 1/9 1/9 1/9 1/9 1/9 1/9",
		"1/3 3333/9998 1/3", "1" + strings.Repeat("0", api.MaxDigits-1), "9998/9999 1/9998", "0 1 0",
	}
}

func TestChanceErrors(t *testing.T) {
	good := chance(1, "1/2 1/2")
	for _, lengths := range wrongLengths() {
		bad := chance(1, lengths)
		for _, age := range []int{0, -1, 1, 9} {
			checkChances(t, []api.Chance{bad}, []int{age}, each(api.ErrArg))
		}
		checkChances(t, []api.Chance{bad, good}, []int{0, 0}, each(api.ErrArg))
		checkChances(t, []api.Chance{good, good, bad}, []int{0, 0, 0}, others(api.ErrArg))
	}
	for _, weight := range []int{-1, 51, math.MinInt, math.MaxInt} {
		checkChances(t, []api.Chance{chance(weight, "1")}, []int{0}, each(api.ErrArg))
		checkChances(t, []api.Chance{good, chance(weight, "1")}, []int{0, 0}, others(api.ErrArg))
	}
	for _, c := range []api.Chance{
		chance(0, "1"), chance(50, "1"), chance(1, "1/9999 9998/9999"), chance(1, "9998/9999 1/9999"), chance(1, "0 0 0 0 0 0 0 1"),
		chance(1, "1/8 1/8 1/8 1/8 1/8 1/8 1/8 1/8"), chance(1, "1/2 0 0 1/2"), chance(1, "1234/9999 8765/9999"), primes(1, 2477, 2473, 2467),
	} {
		checkChances(t, []api.Chance{c}, []int{0}, each(api.OK))
		checkChances(t, []api.Chance{c, good, good}, []int{0, 1, 0}, each(api.OK))
		checkChances(t, []api.Chance{c, good, good, good}, make([]int, 4), others(api.ErrArg)) // one more than MaxChances
	}
	checkChances(t, nil, nil, others(api.ErrArg))
	checkChances(t, []api.Chance{}, []int{0}, others(api.ErrArg))
	checkChances(t, slices.Repeat([]api.Chance{good}, 1000), make([]int, 1000), others(api.ErrArg))
}

// TestAgeErrors: the ages of Choose; Index, of the first job and age, has errors of its own.
func TestAgeErrors(t *testing.T) {
	two, three := chance(1, "1/2 1/2"), chance(1, "1/2 0 1/2")
	for _, c := range []struct {
		l             []api.Chance
		ages          []int
		index, choose api.Errno
	}{
		{[]api.Chance{two}, []int{0}, api.OK, api.OK},
		{[]api.Chance{two}, []int{1}, api.OK, api.OK}, // the last one that is possible
		{[]api.Chance{two}, []int{2}, api.ErrArg, api.ErrArg},
		{[]api.Chance{two}, []int{3}, api.ErrArg, api.ErrArg},
		{[]api.Chance{two}, []int{-1}, api.ErrArg, api.ErrNone},
		{[]api.Chance{two}, []int{-2}, api.ErrArg, api.ErrArg},
		{[]api.Chance{two}, []int{math.MaxInt}, api.ErrArg, api.ErrArg},
		{[]api.Chance{two}, []int{math.MinInt}, api.ErrArg, api.ErrArg},
		{[]api.Chance{two}, []int{1 << 32}, api.ErrArg, api.ErrArg},
		{[]api.Chance{two}, []int{0, 0}, api.OK, api.ErrArg},
		{[]api.Chance{two}, []int{0, -1}, api.OK, api.ErrArg},
		{[]api.Chance{two}, nil, api.OK, api.ErrArg},
		{[]api.Chance{two, three}, []int{0}, api.OK, api.ErrArg},
		{[]api.Chance{two, three}, []int{-1}, api.ErrArg, api.ErrArg},
		{[]api.Chance{two, three}, []int{-1, -1}, api.ErrArg, api.ErrNone},
		{[]api.Chance{two, three}, []int{1, 2}, api.OK, api.OK},
		{[]api.Chance{two, three}, []int{2, 1}, api.ErrArg, api.ErrArg},
		{[]api.Chance{two, three}, []int{1, 3}, api.OK, api.ErrArg},
		{[]api.Chance{two, three}, []int{-1, 3}, api.ErrArg, api.ErrArg},
		{[]api.Chance{two, three}, []int{-1, -2}, api.ErrArg, api.ErrArg},
		{[]api.Chance{two, three, two}, []int{-1, -1, -1}, api.ErrArg, api.ErrNone},
		{[]api.Chance{two, three, two}, []int{-1, -1, 1}, api.ErrArg, api.OK},
		{[]api.Chance{two, three, two}, []int{-1, -1, 2}, api.ErrArg, api.ErrArg},
		{[]api.Chance{two, three, two}, []int{-1, -1, -1, -1}, api.ErrArg, api.ErrArg},
		{[]api.Chance{sure(8, 1)}, []int{7}, api.OK, api.OK},
		{[]api.Chance{sure(8, 1)}, []int{8}, api.ErrArg, api.ErrArg},
	} {
		want := [4]api.Errno{c.index, api.OK, c.choose, api.OK}
		if len(c.ages) == 0 {
			want[0] = api.OK // it is not called
		}
		checkChances(t, c.l, c.ages, want)
	}
}

// somePlan returns jobs, pairs and an order, of which each may be valid or not.
func somePlan(r *rand.Rand) ([]api.Job, []api.Pair, []int) {
	n := 1 + r.Intn(api.MaxJobs)
	jobs, pairs, order := someJobs(r, n, 9), somePairs(r, n, r.Intn(6)), r.Perm(n)
	if best, _, e := Best(jobs, pairs); e == api.OK && r.Intn(2) == 0 {
		order = best
	}
	switch r.Intn(8) {
	case 0:
		jobs[r.Intn(n)].Length = r.Intn(3) - 1
	case 1:
		pairs = append(pairs, api.Pair{A: r.Intn(n + 1), B: r.Intn(n + 1)})
	case 2:
		order[r.Intn(n)] = r.Intn(n)
	case 3:
		jobs = append(jobs, someJobs(r, 2, 9)...)
	}
	return jobs, pairs, order
}

// someGuess returns chances and ages, of which each may be valid or not.
func someGuess(r *rand.Rand) ([]api.Chance, []int) {
	l := someChances(r, 1+r.Intn(api.MaxChances), 4)
	var ages []int
	for _, c := range l {
		ages = append(ages, r.Intn(len(c.Lengths)+1)-1)
	}
	at := r.Intn(len(l))
	switch r.Intn(8) {
	case 0:
		l[at].Lengths[0] = numsOf("-1", "2/2", "", "0", "1/7")[r.Intn(5)]
	case 1:
		ages[at] += r.Intn(3) - 1
	case 2:
		l[at].Weight = 51
	case 3:
		l = l[:at]
	}
	return l, ages
}

// roomy returns a copy that lies in a longer array, with other values behind its end.
func roomy[T any](list []T, others ...T) []T {
	return slices.Concat(list, others)[:len(list)]
}

func roomyChances(l []api.Chance) []api.Chance {
	l = roomy(l, api.Chance{Weight: -9})
	for i := range l {
		l[i].Lengths = roomy(l[i].Lengths, "9", "x")
	}
	return l
}

// text writes arguments with what lies behind their ends.
func text(jobs []api.Job, pairs []api.Pair, order []int, l []api.Chance, ages []int) string {
	out := fmt.Sprint(jobs[:cap(jobs)], pairs[:cap(pairs)], order[:cap(order)], l[:cap(l)], ages[:cap(ages)])
	for _, c := range l {
		out += fmt.Sprint(c.Lengths[:cap(c.Lengths)])
	}
	return out
}

// TestArguments: R1, R3, R4, R5, R6 and P6, for arguments of which many are not valid.
func TestArguments(t *testing.T) {
	r := rand.New(rand.NewSource(20))
	for range 500 {
		a, b, c := somePlan(r)
		d, f := someGuess(r)
		jobs, pairs, order := roomy(a, jobsOf(-7, -7)...), roomy(b, pairsOf(-7, -7)...), roomy(c, -7, -8)
		l, ages := roomyChances(d), roomy(f, -9)
		kept := text(jobs, pairs, order, l, ages)
		plan, guess := allPlanned(jobs, pairs, order), allGuessed(l, ages)
		plan.checkZero(t)
		guess.checkZero(t)
		old := fmt.Sprint(plan)
		plan.spoil()
		allPlanned(somePlan(r))
		allGuessed(someGuess(r))
		if text(jobs, pairs, order, l, ages) != kept {
			t.Fatalf("%v, %v, %v, %v, %v: arguments are changed", a, b, c, d, f)
		}
		again, other := allPlanned(slices.Clone(a), slices.Clone(b), slices.Clone(c)), allGuessed(d, f)
		clear(jobs)
		clear(pairs)
		clear(order)
		if fmt.Sprint(again) != old || other != guess {
			t.Fatalf("%v, %v, %v, %v, %v: results share memory or differ", a, b, c, d, f)
		}
	}
	if fmt.Sprint(allPlanned(nil, nil, nil)) != fmt.Sprint(allPlanned([]api.Job{}, []api.Pair{}, []int{})) {
		t.Error("nil and empty lists differ")
	}
	one := jobsOf(2, 3)
	if fmt.Sprint(allPlanned(one, nil, []int{0})) != fmt.Sprint(allPlanned(one, []api.Pair{}, []int{0})) {
		t.Error("nil and empty pairs differ")
	}
	if allGuessed(nil, nil) != allGuessed([]api.Chance{}, []int{}) || allGuessed([]api.Chance{{}}, []int{0}) != allGuessed([]api.Chance{{Lengths: []api.Num{}}}, []int{0}) {
		t.Error("nil and empty chances differ")
	}
}

// TestNewMemory: R5: the sets of a result share no memory.
func TestNewMemory(t *testing.T) {
	sets := sidneyOf(t, jobsOf(2, 1, 2, 2, 2, 3, 2, 3), nil)
	for i, set := range sets {
		_ = append(set, 9)
		set[0] = -1 - i
	}
	for i, set := range sets {
		if set[0] != -1-i || slices.Contains(set[1:], 9) || len(sets) != 3 {
			t.Errorf("Sidney: %v", sets)
		}
	}
}
