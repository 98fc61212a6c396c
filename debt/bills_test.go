package debt

import (
	"math"
	"math/rand"
	"slices"
	"testing"

	"pommel/api"
)

func TestGroups(t *testing.T) {
	cases := []struct {
		balances []int
		want     [][]int
	}{
		{[]int{0}, [][]int{{0}}},
		{[]int{0, 0, 0}, [][]int{{0}, {1}, {2}}},
		{[]int{3, -3, 2, -1, -1}, [][]int{{0, 1}, {2, 3, 4}}},
		{[]int{1, -1, 1, -1}, [][]int{{0, 1}, {2, 3}}},
		{[]int{1, 1, -1, -1}, [][]int{{0, 2}, {1, 3}}},
		{[]int{2, -1, -1, 0, 5, -5}, [][]int{{0, 1, 2}, {3}, {4, 5}}},
		{[]int{1, 2, -3}, [][]int{{0, 1, 2}}},
		{[]int{10000, -10000}, [][]int{{0, 1}}},
		// The first group is not the shortest one that is possible.
		{[]int{2, -1, -2, -1, 1, 1}, [][]int{{0, 2}, {1, 4}, {3, 5}}},
		{[]int{3, -1, -2, -2, -1, 3}, [][]int{{0, 1, 2}, {3, 4, 5}}},
	}
	for _, c := range cases {
		if groups, e := Groups(c.balances); e != api.OK || !same(groups, c.want) {
			t.Errorf("Groups(%v) = %v, %d", c.balances, groups, e)
		}
	}
}

// everyGrouping calls a function with each parting of the numbers below n into groups, written by their least members.
func everyGrouping(n int, visit func(groups [][]int)) {
	var groups [][]int
	var place func(i int)
	place = func(i int) {
		if i == n {
			visit(groups)
			return
		}
		for g := range groups {
			groups[g] = append(groups[g], i)
			place(i + 1)
			groups[g] = groups[g][:len(groups[g])-1]
		}
		groups = append(groups, []int{i})
		place(i + 1)
		groups = groups[:len(groups)-1]
	}
	place(0)
}

func isGrouping(balances []int, groups [][]int) bool {
	for _, group := range groups {
		total := 0
		for _, i := range group {
			total += balances[i]
		}
		if total != 0 {
			return false
		}
	}
	return true
}

// someBalances returns balances with the sum 0.
func someBalances(r *rand.Rand, n, most int) []int {
	balances := make([]int, n)
	for {
		last := 0
		for i := range n - 1 {
			balances[i] = r.Intn(2*most+1) - most
			last -= balances[i]
		}
		balances[n-1] = last
		if last >= -10000 && last <= 10000 {
			r.Shuffle(n, func(i, j int) { balances[i], balances[j] = balances[j], balances[i] })
			return balances
		}
	}
}

// TestGrouped: P3: the first one of the groupings with the most groups.
func TestGrouped(t *testing.T) {
	r := rand.New(rand.NewSource(1))
	for range 300 {
		balances := someBalances(r, r.Intn(8)+1, r.Intn(5)+1)
		var best [][]int
		everyGrouping(len(balances), func(groups [][]int) {
			if len(groups) < len(best) || !isGrouping(balances, groups) {
				return
			}
			if len(groups) > len(best) || slices.CompareFunc(groups, best, slices.Compare[[]int]) < 0 {
				best = clone(groups)
			}
		})
		if groups, e := Groups(balances); e != api.OK || !same(groups, best) {
			t.Fatalf("Groups(%v) = %v, %d; want %v", balances, groups, e, best)
		}
	}
}

// TestSettled: D6 and P2: the payments settle the balances, and there are as few as D6 says.
func TestSettled(t *testing.T) {
	r := rand.New(rand.NewSource(2))
	for range 3000 {
		balances := someBalances(r, r.Intn(api.MaxBills)+1, []int{1, 3, 10, 1000}[r.Intn(4)])
		payments, e := Settle(balances)
		groups, f := Groups(balances)
		if e != api.OK || f != api.OK || !isGrouping(balances, groups) {
			t.Fatalf("Settle(%v) = %v, %d; Groups: %v, %d", balances, payments, e, groups, f)
		}
		want := 0
		for _, balance := range balances {
			if balance != 0 {
				want++
			}
		}
		for _, group := range groups {
			if len(group) > 1 {
				want--
			}
		}
		if len(payments) != want || !settles(balances, payments) {
			t.Fatalf("Settle(%v) = %v; Groups: %v", balances, payments, groups)
		}
	}
}

// settles reports whether payments are in order, each from one pair to another one, and above 0, and settle balances.
func settles(balances []int, payments []api.Payment) bool {
	got := make([]int, len(balances))
	for i, p := range payments {
		if p.Amount <= 0 || p.From == p.To {
			return false
		}
		if i > 0 && slices.Compare([]int{payments[i-1].From, payments[i-1].To}, []int{p.From, p.To}) >= 0 {
			return false
		}
		got[p.From] -= p.Amount
		got[p.To] += p.Amount
	}
	return slices.Equal(got, balances)
}

// TestFewest: no fewer payments settle, of whatever amounts: if they did, the firms that they connect would be more groups.
func TestFewest(t *testing.T) {
	r := rand.New(rand.NewSource(3))
	for range 100 {
		balances := someBalances(r, r.Intn(4)+1, 3)
		payments, _ := Settle(balances)
		if canSettle(slices.Clone(balances), len(payments)-1) || !canSettle(slices.Clone(balances), len(payments)) {
			t.Fatalf("Settle(%v) = %v", balances, payments)
		}
	}
}

// canSettle tries all payments, one after the other.
func canSettle(open []int, count int) bool {
	if count < 0 {
		return false
	}
	if !slices.ContainsFunc(open, func(n int) bool { return n != 0 }) {
		return true
	}
	if count == 0 {
		return false
	}
	for from := range open {
		for to := range open {
			for amount := 1; from != to && amount <= 9; amount++ {
				open[from] += amount
				open[to] -= amount
				ok := canSettle(open, count-1)
				open[from] -= amount
				open[to] += amount
				if ok {
					return true
				}
			}
		}
	}
	return false
}

func TestSettle(t *testing.T) {
	cases := []struct {
		balances []int
		want     []api.Payment
	}{
		{[]int{0}, nil},
		{[]int{0, 0}, nil},
		{[]int{-4, 4}, []api.Payment{{From: 0, To: 1, Amount: 4}}},
		{[]int{10000, -10000}, []api.Payment{{From: 1, To: 0, Amount: 10000}}},
		{[]int{3, -3, 2, -1, -1}, []api.Payment{{From: 1, To: 0, Amount: 3}, {From: 3, To: 2, Amount: 1}, {From: 4, To: 2, Amount: 1}}},
		{[]int{-3, 1, 0, 2}, []api.Payment{{From: 0, To: 1, Amount: 1}, {From: 0, To: 3, Amount: 2}}},
	}
	for _, c := range cases {
		if payments, e := Settle(c.balances); e != api.OK || !slices.Equal(payments, c.want) {
			t.Errorf("Settle(%v) = %v, %d", c.balances, payments, e)
		}
	}
}

func TestBalanceErrors(t *testing.T) {
	bad := [][]int{nil, {}, {1}, {-1}, {1, 1}, {1, -2}, {10001, -10001}, {-10001, 10001}, {math.MaxInt, -math.MaxInt},
		{math.MinInt, math.MinInt}, {math.MaxInt, math.MinInt, 1}, make([]int, api.MaxBills+1)}
	for _, balances := range bad {
		if groups, e := Groups(balances); e != api.ErrArg || len(groups) != 0 {
			t.Errorf("Groups(%v) = %v, %d", balances, groups, e)
		}
		if payments, e := Settle(balances); e != api.ErrArg || len(payments) != 0 {
			t.Errorf("Settle(%v) = %v, %d", balances, payments, e)
		}
	}
	if groups, e := Groups(make([]int, api.MaxBills)); e != api.OK || len(groups) != api.MaxBills {
		t.Errorf("Groups of zeros = %v, %d", groups, e)
	}
}

// TestBalanceArguments: R5, R6 and P6.
func TestBalanceArguments(t *testing.T) {
	r := rand.New(rand.NewSource(4))
	for range 200 {
		balances := someBalances(r, r.Intn(api.MaxBills)+1, 4)
		before := slices.Clone(balances)
		groups, _ := Groups(balances)
		payments, _ := Settle(balances)
		parted, paid := clone(groups), slices.Clone(payments)
		for i, group := range groups {
			group = group[:cap(group)]
			for j := range group {
				group[j] = -1
			}
			for k := i + 1; k < len(groups); k++ {
				if !slices.Equal(groups[k], parted[k]) {
					t.Fatalf("%v: two groups of a result share memory", before)
				}
			}
		}
		clear(payments)
		again, _ := Groups(balances)
		settled, _ := Settle(balances)
		if !slices.Equal(before, balances) || !same(again, parted) || !slices.Equal(settled, paid) {
			t.Fatalf("%v: an argument was changed, or results share memory, or differ", before)
		}
	}
}
