package mend

import (
	"math/big"
	"math/rand"
	"slices"
	"strings"
	"testing"

	"pommel/api"
)

func TestIndexKnown(t *testing.T) {
	for _, c := range []struct {
		weight  int
		lengths string
		age     int
		index   api.Num
		d       int
	}{
		{1, "1", 0, "1", 1},
		{0, "1", 0, "0", 1},
		{50, "1", 0, "50", 1},
		{2, "1/2 1/2", 0, "4/3", 2},
		{2, "1/2 1/2", 1, "2", 1},
		{0, "1/2 1/2", 0, "0", 1}, // each d has the index 0
		{0, "0 0 0 1", 1, "0", 1},
		{3, "3/4 1/4", 0, "12/5", 2},
		{1, "9/10 0 1/10", 0, "9/10", 1},
		{1, "9/10 0 1/10", 1, "1/2", 2}, // a chance of 0 in the middle
		{1, "9/10 0 1/10", 2, "1", 1},
		{1, "1/2 1/4 1/4", 0, "4/7", 3},
		{1, "1/2 1/4 0 0 0 1/4", 0, "1/2", 1}, // 1 and 2 have the same index
		{1, "1/2 1/4 0 0 0 1/4", 1, "1/2", 1},
		{1, "1/2 1/4 0 0 0 1/4", 2, "1/4", 4},
		{1, "0 2/3 0 1/3", 0, "3/8", 4},
		{1, "0 3/4 0 0 1/4", 0, "3/8", 2},
		{8, "0 1/2 0 0 1/4 0 0 1/4", 0, "2", 2},
		{1, "1/2 0 0 1/2", 0, "1/2", 1},
		{1, "1/3 0 1/3 0 0 1/3", 0, "1/3", 1},
		{1, "1/4 1/4 0 0 1/4 1/4", 0, "2/7", 2},
		{6, "1/8 1/8 1/8 1/8 1/8 1/8 1/8 1/8", 0, "4/3", 8},
		{6, "1/8 1/8 1/8 1/8 1/8 1/8 1/8 1/8", 7, "6", 1},
		{1, "1/9999 9998/9999", 0, "9999/19997", 2},
		{1, "9998/9999 1/9999", 0, "9999/10000", 2},
	} {
		if index, d := indexOf(t, chance(c.weight, c.lengths), c.age); index != c.index || d != c.d {
			t.Errorf("Index of %d, %s at %d = %s, %d, want %s, %d", c.weight, c.lengths, c.age, index, d, c.index, c.d)
		}
	}
}

// within returns the chance that a job takes more than a and at most b.
func within(t *testing.T, c api.Chance, a, b int) *big.Rat {
	t.Helper()
	sum := new(big.Rat)
	for i, n := range c.Lengths {
		if i+1 > a && i+1 <= b {
			sum = plus(sum, ratOf(t, n))
		}
	}
	return sum
}

func wantIndex(t *testing.T, c api.Chance, age int) (*big.Rat, int) {
	t.Helper()
	greatest, best := whole(-1), 0
	for d := 1; d <= len(c.Lengths)-age; d++ {
		sum := new(big.Rat)
		for s := range d {
			sum = plus(sum, within(t, c, age+s, len(c.Lengths)))
		}
		value := times(whole(c.Weight), within(t, c, age, age+d))
		value.Quo(value, sum)
		if value.Cmp(greatest) > 0 {
			greatest, best = value, d
		}
	}
	return greatest, best
}

// TestIndex: P1, P3, of all ages of random jobs.
func TestIndex(t *testing.T) {
	r := rand.New(rand.NewSource(10))
	for range 500 {
		c := someChances(r, 1, api.MaxChance)[0]
		for age := range c.Lengths {
			want, best := wantIndex(t, c, age)
			if index, d := indexOf(t, c, age); index != numOf(want) || d != best {
				t.Fatalf("Index(%v, %d) = %s, %d, want %s, %d", c, age, index, d, numOf(want), best)
			}
		}
	}
}

// outcome is how long each job takes, with its chance.
type outcome struct {
	takes  []int
	chance *big.Rat
}

func outcomes(t *testing.T, l []api.Chance) []outcome {
	t.Helper()
	list := []outcome{{nil, whole(1)}}
	for _, c := range l {
		var longer []outcome
		for _, o := range list {
			for i, n := range c.Lengths {
				if p := ratOf(t, n); p.Sign() > 0 {
					longer = append(longer, outcome{append(slices.Clone(o.takes), i+1), times(o.chance, p)})
				}
			}
		}
		list = longer
	}
	return list
}

// ageKey is ages that are the key of a map.
type ageKey [api.MaxChances]int

func keyOf(ages []int) ageKey {
	var key ageKey
	copy(key[:], ages)
	return key
}

// simulated returns what the jobs cost if they take so long, and it is worked on what a rule says.
func simulated(l []api.Chance, takes []int, rule func(ages []int) int) int {
	ages := make([]int, len(l))
	cost, left := 0, len(l)
	for now := 1; left > 0; now++ {
		job := rule(ages)
		ages[job]++
		if ages[job] == takes[job] {
			ages[job] = -1
			cost += l[job].Weight * now
			left--
		}
	}
	return cost
}

// meanBy returns the mean cost by a rule.
func meanBy(l []api.Chance, all []outcome, rule func(ages []int) int) *big.Rat {
	mean := new(big.Rat)
	for _, o := range all {
		mean = plus(mean, times(o.chance, whole(simulated(l, o.takes, rule))))
	}
	return mean
}

// wantValue returns the least mean of what is to be paid from ages on, by the chances of those ages.
func wantValue(t *testing.T, l []api.Chance, ages []int, known map[ageKey]*big.Rat) *big.Rat {
	t.Helper()
	if value, ok := known[keyOf(ages)]; ok {
		return value
	}
	var least *big.Rat
	unit := 0
	for i, age := range ages {
		if age == -1 {
			continue
		}
		unit += l[i].Weight
		n := len(l[i].Lengths)
		ends := new(big.Rat).Quo(ratOf(t, l[i].Lengths[age]), within(t, l[i], age, n))
		next := slices.Clone(ages)
		next[i] = -1
		mean := times(ends, wantValue(t, l, next, known))
		if age+1 < n {
			next[i] = age + 1
			mean = plus(mean, times(new(big.Rat).Sub(whole(1), ends), wantValue(t, l, next, known)))
		}
		if least == nil || mean.Cmp(least) < 0 {
			least = mean
		}
	}
	if least == nil {
		least = new(big.Rat)
	}
	known[keyOf(ages)] = plus(least, whole(unit))
	return known[keyOf(ages)]
}

// wantChoice returns the first job that is not done whose index is greatest.
func wantChoice(t *testing.T, l []api.Chance, ages []int) int {
	t.Helper()
	first, greatest := -1, whole(-1)
	for i, age := range ages {
		if age == -1 {
			continue
		}
		if index, _ := wantIndex(t, l[i], age); index.Cmp(greatest) > 0 {
			first, greatest = i, index
		}
	}
	return first
}

// checkMeans compares Value and Follow with what the document says of them, and checks M5.
func checkMeans(t *testing.T, l []api.Chance) {
	t.Helper()
	value, follow := meanOf(t, Value, l), meanOf(t, Follow, l)
	if want := numOf(wantValue(t, l, make([]int, len(l)), map[ageKey]*big.Rat{})); value != want {
		t.Fatalf("Value(%v) = %s, want %s", l, value, want)
	}
	choices := map[ageKey]int{}
	want := meanBy(l, outcomes(t, l), func(ages []int) int {
		key := keyOf(ages)
		if _, ok := choices[key]; !ok {
			choices[key] = wantChoice(t, l, ages)
			if got := chooseOf(t, l, ages); got != choices[key] {
				t.Fatalf("Choose(%v, %v) = %d, want %d", l, ages, got, choices[key])
			}
		}
		return choices[key]
	})
	if follow != numOf(want) || follow != value {
		t.Fatalf("%v: Value %s, Follow %s, want %s", l, value, follow, numOf(want))
	}
}

// TestMeans: P1, P3, M5, for one, two and three jobs.
func TestMeans(t *testing.T) {
	r := rand.New(rand.NewSource(11))
	for range 100 {
		checkMeans(t, someChances(r, 1, api.MaxChance))
		checkMeans(t, someChances(r, 2, 4))
	}
	for range 15 {
		checkMeans(t, someChances(r, 2, api.MaxChance))
		checkMeans(t, someChances(r, api.MaxChances, 4))
	}
	var longest []api.Chance
	for weight := range api.MaxChances {
		longest = append(longest, someChance(r, api.MaxChance, api.MaxLength-weight, 9999))
	}
	checkMeans(t, longest)
}

// smallChances returns the jobs with up to so many lengths whose chances are parts of a number.
func smallChances(lengths, one, weight int) []api.Chance {
	var list []api.Chance
	var more func(nums []api.Num, left int)
	more = func(nums []api.Num, left int) {
		if left == 0 {
			list = append(list, api.Chance{Lengths: slices.Clone(nums), Weight: weight})
			return
		}
		for part := 0; part <= left && len(nums) < lengths; part++ {
			more(append(nums, numOf(big.NewRat(int64(part), int64(one)))), left-part)
		}
	}
	more(nil, one)
	return list
}

// TestSmallMeans: any two of all small jobs, with different weights.
func TestSmallMeans(t *testing.T) {
	list := append(smallChances(3, 2, 2), smallChances(3, 3, 3)...)
	for _, a := range list {
		for _, b := range list {
			checkMeans(t, []api.Chance{a, b})
		}
	}
}

// rules yields all rules: of each state that is not done which job is worked on.
func rules(l []api.Chance) func(yield func(rule func(ages []int) int) bool) {
	var states [][]int
	var more func(ages []int)
	more = func(ages []int) {
		if len(ages) == len(l) {
			if slices.Max(ages) >= 0 {
				states = append(states, slices.Clone(ages))
			}
			return
		}
		for age := -1; age < len(l[len(ages)].Lengths); age++ {
			more(append(ages, age))
		}
	}
	more(nil)
	return func(yield func(rule func(ages []int) int) bool) {
		chosen := map[ageKey]int{}
		var choose func(i int) bool
		choose = func(i int) bool {
			if i == len(states) {
				return yield(func(ages []int) int { return chosen[keyOf(ages)] })
			}
			for job, age := range states[i] {
				chosen[keyOf(states[i])] = job
				if age != -1 && !choose(i+1) {
					return false
				}
			}
			return true
		}
		choose(0)
	}
}

// TestAllRules: Value is the least mean of all rules there are.
func TestAllRules(t *testing.T) {
	r := rand.New(rand.NewSource(12))
	for i := range 60 {
		lengths := [][]int{{2, 4}, {3, 3}, {1, 2, 1}, {2, 1, 1}}[i%4]
		var l []api.Chance
		for _, most := range lengths {
			l = append(l, someChance(r, most, r.Intn(9), 12))
		}
		all := outcomes(t, l)
		var least *big.Rat
		for rule := range rules(l) {
			if mean := meanBy(l, all, rule); least == nil || mean.Cmp(least) < 0 {
				least = mean
			}
		}
		if value := meanOf(t, Value, l); value != numOf(least) {
			t.Fatalf("Value(%v) = %s, want %s", l, value, numOf(least))
		}
	}
}

func TestMeansKnown(t *testing.T) {
	for _, c := range []struct {
		l    []api.Chance
		want api.Num
	}{
		{[]api.Chance{chance(1, "1")}, "1"},
		{[]api.Chance{chance(0, "1")}, "0"},
		{[]api.Chance{chance(50, "0 0 0 0 0 0 0 1")}, "400"},
		{[]api.Chance{chance(2, "1/2 1/2")}, "3"},
		{[]api.Chance{chance(1, "1/3 1/3 1/3")}, "2"},
		{[]api.Chance{chance(3, "1/9999 0 9998/9999")}, "29995/3333"},
		{[]api.Chance{sure(3, 1), sure(1, 1)}, "5"},
		{[]api.Chance{chance(1, "1/2 0 0 1/2"), sure(2, 1)}, "13/2"}, // tried for 1, and put off then, or put off at once
		{[]api.Chance{sure(2, 1), chance(2, "1/2 0 0 0 1/2")}, "11"}, // tried for 1, and put off then
		{[]api.Chance{chance(0, "1/2 0 0 0 1/2"), sure(2, 1)}, "2"},  // the one without weight last
		{slices.Repeat([]api.Chance{sure(1, 1)}, 3), "6"},            // jobs alike
		{slices.Repeat([]api.Chance{chance(4, "1/2 1/2")}, 3), "36"}, // with 1 left, none is put off
	} {
		if value := meanOf(t, Value, c.l); value != c.want {
			t.Errorf("Value(%v) = %s, want %s", c.l, value, c.want)
		}
		checkMeans(t, c.l)
	}
}

func TestChooseKnown(t *testing.T) {
	half, long := chance(1, "1/2 0 0 1/2"), sure(2, 1)
	for _, c := range []struct {
		l    []api.Chance
		ages []int
		want int
	}{
		{[]api.Chance{half}, []int{0}, 0},
		{[]api.Chance{half}, []int{3}, 0}, // the last age that is possible
		{[]api.Chance{half, half}, []int{0, 0}, 0},
		{[]api.Chance{half, half}, []int{1, 1}, 0},
		{[]api.Chance{half, half}, []int{-1, 1}, 1},
		{[]api.Chance{half, half}, []int{1, -1}, 0},
		{[]api.Chance{half, half}, []int{1, 0}, 1},
		{[]api.Chance{half, half}, []int{0, 2}, 0}, // the same index
		{[]api.Chance{half, half}, []int{2, 0}, 0},
		{[]api.Chance{half, half}, []int{2, 3}, 1},
		{[]api.Chance{half, long}, []int{0, 0}, 0}, // the same index
		{[]api.Chance{long, half}, []int{0, 0}, 0},
		{[]api.Chance{half, long}, []int{1, 0}, 1},
		{[]api.Chance{half, long}, []int{2, 0}, 0},
		{[]api.Chance{half, long}, []int{2, 1}, 1},
		{[]api.Chance{half, long, long}, []int{1, 0, 0}, 1},
		{[]api.Chance{half, long, long}, []int{1, 0, 1}, 2},
		{[]api.Chance{half, long, long}, []int{-1, -1, 0}, 2},
		{[]api.Chance{chance(0, "1"), chance(0, "1/2 1/2")}, []int{0, 1}, 0}, // no weight
		{[]api.Chance{chance(0, "1"), chance(0, "1/2 1/2")}, []int{-1, 0}, 1},
		{[]api.Chance{chance(0, "1"), chance(1, "0 0 1"), chance(1, "0 0 1")}, []int{0, 0, 0}, 1},
	} {
		if got := chooseOf(t, c.l, c.ages); got != c.want {
			t.Errorf("Choose(%v, %v) = %d, want %d", c.l, c.ages, got, c.want)
		}
	}
}

// TestChoose: all ages of random jobs.
func TestChoose(t *testing.T) {
	r := rand.New(rand.NewSource(13))
	for range 1500 {
		l := someChances(r, 1+r.Intn(api.MaxChances), api.MaxChance)
		if r.Intn(4) == 0 {
			l[len(l)-1] = l[0]
		}
		var ages []int
		for _, c := range l {
			ages = append(ages, r.Intn(len(c.Lengths)+1)-1)
		}
		want := wantChoice(t, l, ages)
		got, e := Choose(l, ages)
		if want == -1 && (got != 0 || e != api.ErrNone) || want != -1 && (got != want || e != api.OK) {
			t.Fatalf("Choose(%v, %v) = %d, %d, want %d", l, ages, got, e, want)
		}
	}
}

// TestSure: M6.
func TestSure(t *testing.T) {
	for n := 1; n <= api.MaxChance; n++ {
		for _, weight := range []int{0, 1, 6, api.MaxLength} {
			for age := range n {
				left := n - age
				want, d := numOf(big.NewRat(int64(weight), int64(left))), left
				if weight == 0 {
					d = 1
				}
				if index, got := indexOf(t, sure(n, weight), age); index != want || got != d {
					t.Errorf("Index of %d for sure, %d, at %d = %s, %d", n, weight, age, index, got)
				}
			}
		}
	}
	r := rand.New(rand.NewSource(14))
	for range 60 {
		jobs := someJobs(r, 1+r.Intn(api.MaxChances), api.MaxChance)
		var l []api.Chance
		for _, job := range jobs {
			l = append(l, sure(job.Length, job.Weight))
		}
		_, cost := bestOf(t, jobs, nil)
		if value := meanOf(t, Value, l); value != numOf(whole(cost)) {
			t.Fatalf("Value of %v for sure = %s, Best %d", jobs, value, cost)
		}
	}
}

// TestUnits: M7.
func TestUnits(t *testing.T) {
	r := rand.New(rand.NewSource(15))
	for range 60 {
		var l, heavy []api.Chance
		factor := 1 + r.Intn(10)
		var ages []int
		for range 1 + r.Intn(api.MaxChances) {
			c := someChance(r, 1+r.Intn(4), r.Intn(api.MaxLength/factor+1), 30)
			l = append(l, c)
			heavy = append(heavy, api.Chance{Lengths: c.Lengths, Weight: factor * c.Weight})
			ages = append(ages, r.Intn(len(c.Lengths)))
		}
		value := ratOf(t, meanOf(t, Value, l))
		if got := meanOf(t, Value, heavy); got != numOf(times(value, whole(factor))) {
			t.Fatalf("Value(%v) = %s, of %d times the weights %s", l, numOf(value), factor, got)
		}
		if chooseOf(t, l, ages) != chooseOf(t, heavy, ages) {
			t.Fatalf("Choose(%v, %v) is not the same of %d times the weights", l, ages, factor)
		}
	}
}

// primes returns a job whose chances have three great primes in their denominators.
func primes(weight, p, q, s int) api.Chance {
	c := api.Chance{Weight: weight}
	for _, prime := range []int{p, q, s} {
		part := prime / 3
		for _, top := range []int{part, prime - part} {
			c.Lengths = append(c.Lengths, numOf(big.NewRat(int64(top), int64(4*prime))))
		}
	}
	c.Lengths = append(c.Lengths, "1/8", "1/8")
	return c
}

// TestLongNums: three jobs with eight lengths each, whose chances have no common denominator that is small.
func TestLongNums(t *testing.T) {
	l := []api.Chance{primes(49, 2477, 2473, 2467), primes(48, 2459, 2447, 2441), primes(47, 2437, 2423, 2417)}
	checkMeans(t, l)
	if value := string(meanOf(t, Value, l)); len(strings.Split(value, "/")) != 2 || len(value) < 60 {
		t.Errorf("Value = %s", value)
	}
}
