package debt

import (
	"cmp"
	"math/bits"
	"slices"

	"pommel/api"
)

// maxBill is the greatest balance; the least one is as much below 0.
const maxBill = api.MaxDebt * api.MaxBills

// Groups returns the first grouping with the most groups.
func Groups(balances []int) ([][]int, api.Errno) {
	if !areBalances(balances) {
		return nil, api.ErrArg
	}
	return grouped(balances), api.OK
}

// Settle returns as few payments as possible.
func Settle(balances []int) ([]api.Payment, api.Errno) {
	if !areBalances(balances) {
		return nil, api.ErrArg
	}
	var payments []api.Payment
	for _, group := range grouped(balances) {
		payments = append(payments, settled(balances, group)...)
	}
	slices.SortFunc(payments, func(a, b api.Payment) int {
		return cmp.Or(cmp.Compare(a.From, b.From), cmp.Compare(a.To, b.To))
	})
	return payments, api.OK
}

func areBalances(balances []int) bool {
	if len(balances) < 1 || len(balances) > api.MaxBills {
		return false
	}
	for _, balance := range balances {
		if balance < -maxBill || balance > maxBill {
			return false
		}
	}
	return sum(balances) == 0
}

// grouped returns the first grouping with the most groups. Sets of balances are bits of a number.
func grouped(balances []int) [][]int {
	sums := sumsOf(balances)
	most := mostGroups(sums)
	var groups [][]int
	for left := len(sums) - 1; left > 0; {
		var first []int
		set := 0
		for part := left; part > 0; part = (part - 1) & left {
			if !hasLeast(part, left) || sums[part] != 0 || most[left&^part]+1 != most[left] {
				continue
			}
			group := members(part)
			if first == nil || slices.Compare(group, first) < 0 {
				first, set = group, part
			}
		}
		groups = append(groups, first)
		left &^= set
	}
	return groups
}

// sumsOf returns the sum of each set of balances.
func sumsOf(balances []int) []int {
	sums := make([]int, 1<<len(balances))
	for set := 1; set < len(sums); set++ {
		sums[set] = sums[set&(set-1)] + balances[bits.TrailingZeros(uint(set))]
	}
	return sums
}

// mostGroups returns, for each set whose sum is 0, into how many groups it can be parted.
func mostGroups(sums []int) []int {
	most := make([]int, len(sums))
	for set := 1; set < len(sums); set++ {
		for part := set; sums[set] == 0 && part > 0; part = (part - 1) & set {
			if hasLeast(part, set) && sums[part] == 0 {
				most[set] = max(most[set], most[set&^part]+1)
			}
		}
	}
	return most
}

// hasLeast reports whether a part of a set has its least member.
func hasLeast(part, set int) bool {
	return part&set&-set != 0
}

func members(set int) []int {
	var list []int
	for ; set > 0; set &= set - 1 {
		list = append(list, bits.TrailingZeros(uint(set)))
	}
	return list
}

// settled returns payments within a group that cannot be parted. Each payment settles the firm that pays or the one
// that receives, only the last one both: else those that are settled would be a group of their own.
func settled(balances, group []int) []api.Payment {
	var givers, takers []int
	open := make([]int, len(balances))
	for _, firm := range group {
		open[firm] = balances[firm]
		switch {
		case balances[firm] < 0:
			givers = append(givers, firm)
		case balances[firm] > 0:
			takers = append(takers, firm)
		}
	}
	var payments []api.Payment
	for len(givers) > 0 && len(takers) > 0 {
		from, to := givers[0], takers[0]
		amount := min(-open[from], open[to])
		payments = append(payments, api.Payment{From: from, To: to, Amount: amount})
		open[from] += amount
		open[to] -= amount
		if open[from] == 0 {
			givers = givers[1:]
		}
		if open[to] == 0 {
			takers = takers[1:]
		}
	}
	return payments
}
