package debt

import "pommel/api"

// maxPrice is the greatest price; the least one is as much below 0.
const maxPrice = 1000

// far is more than any way costs.
const far = 1000

// Cancel returns the debts that are left when rings are cancelled, and how much less they are.
func Cancel(debts [][]int) ([][]int, int, api.Errno) {
	if !areDebts(debts) {
		return nil, 0, api.ErrArg
	}
	rest := cancelled(debts)
	less := 0
	for i, row := range debts {
		less += sum(row) - sum(rest[i])
	}
	return rest, less, api.OK
}

// Proves reports whether prices prove that debts cannot be less.
func Proves(debts, rest [][]int, prices []int) (bool, api.Errno) {
	if !areDebts(debts) {
		return false, api.ErrArg
	}
	if !sameShape(debts, rest) || len(prices) != len(debts) {
		return false, api.ErrForm
	}
	for _, price := range prices {
		if price < -maxPrice || price > maxPrice {
			return false, api.ErrForm
		}
	}
	return keepsBalances(debts, rest) && priced(debts, rest, prices), api.OK
}

// Prices returns prices that prove what Cancel leaves.
func Prices(debts [][]int) ([]int, api.Errno) {
	if !areDebts(debts) {
		return nil, api.ErrArg
	}
	// The costs of the cheapest ways satisfy just the inequalities that Proves checks.
	prices, _ := cheapest(debts, cancelled(debts), make([]int, len(debts)))
	return prices, api.OK
}

func sameShape(a, b [][]int) bool {
	if len(a) != len(b) {
		return false
	}
	for i, row := range a {
		if len(row) != len(b[i]) {
			return false
		}
	}
	return true
}

// keepsBalances reports whether rest is what some rings taken out of the debts leave.
func keepsBalances(debts, rest [][]int) bool {
	for i, row := range rest {
		for j, r := range row {
			if r < 0 || r > debts[i][j] {
				return false
			}
		}
	}
	before, after := balances(debts), balances(rest)
	for i := range before {
		if before[i] != after[i] {
			return false
		}
	}
	return true
}

// balances returns, for each firm, what it owes minus what it is owed.
func balances(debts [][]int) []int {
	out := make([]int, len(debts))
	for i, row := range debts {
		for j, debt := range row {
			out[i] += debt
			out[j] -= debt
		}
	}
	return out
}

func priced(debts, rest [][]int, prices []int) bool {
	for i, row := range rest {
		for j, r := range row {
			rise := prices[j] - prices[i]
			if i != j && (r > 0 && rise < 1 || r < debts[i][j] && rise > 1) {
				return false
			}
		}
	}
	return true
}

// cancelled returns the least debts with the same balances: debts are taken up from nothing,
// each time along the cheapest way from a firm that has to owe more to one that has to be owed more.
func cancelled(debts [][]int) [][]int {
	rest := copied(debts)
	for _, row := range rest {
		clear(row)
	}
	open := balances(debts)
	for {
		way := cheapestWay(debts, rest, open)
		if len(way) == 0 {
			return rest
		}
		first, last := way[0], way[len(way)-1]
		amount := min(open[first], -open[last])
		for k := range len(way) - 1 {
			amount = min(amount, room(debts, rest, way[k], way[k+1]))
		}
		for k := range len(way) - 1 {
			move(rest, way[k], way[k+1], amount)
		}
		open[first] -= amount
		open[last] += amount
	}
}

// cost returns what it costs to let one firm owe another one more, by 1: the sum of all debts becomes less
// if the other one owes the firm something that can be taken back. It returns false if there is no room.
func cost(debts, rest [][]int, from, to int) (int, bool) {
	if rest[to][from] > 0 {
		return -1, true
	}
	return 1, rest[from][to] < debts[from][to]
}

// room returns by how much more one firm can owe another one at the same cost.
func room(debts, rest [][]int, from, to int) int {
	if rest[to][from] > 0 {
		return rest[to][from]
	}
	return debts[from][to] - rest[from][to]
}

func move(rest [][]int, from, to, amount int) {
	if rest[to][from] > 0 {
		rest[to][from] -= amount
	} else {
		rest[from][to] += amount
	}
}

// cheapest returns what the cheapest way to each firm costs, from costs to start with, and the firm before it on that way
// (-1 if the way starts there). No ring costs less than 0, so a way has each firm but once.
func cheapest(debts, rest [][]int, start []int) ([]int, []int) {
	costs := make([]int, len(start))
	copy(costs, start)
	before := make([]int, len(start))
	for firm := range before {
		before[firm] = -1
	}
	search := func() bool {
		found := false
		for from := range costs {
			for to := range costs {
				step, ok := cost(debts, rest, from, to)
				if ok && costs[from] < far && costs[from]+step < costs[to] {
					costs[to], before[to] = costs[from]+step, from
					found = true
				}
			}
		}
		return found
	}
	for range costs {
		if !search() {
			break
		}
	}
	return costs, before
}

// cheapestWay returns a cheapest way from the firms that have to owe more to one that has to be owed more; none if there is none.
// It may lead to any of these: as long as no way to it is cheaper, no ring will cost less than 0.
func cheapestWay(debts, rest [][]int, open []int) []int {
	start := make([]int, len(open))
	for firm, amount := range open {
		if amount <= 0 {
			start[firm] = far
		}
	}
	costs, before := cheapest(debts, rest, start)
	last := -1
	for firm, amount := range open {
		if amount < 0 && costs[firm] < far {
			last = firm
			break
		}
	}
	var way []int
	for firm := last; firm >= 0; firm = before[firm] {
		way = append([]int{firm}, way...)
	}
	return way
}
