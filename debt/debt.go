// Package debt settles what firms owe each other: see shared/doc/01-debt.md.
package debt

import (
	"pommel/api"
	"pommel/exact"
)

// maxPaid is how many digits a payment that is checked may have.
const maxPaid = 40

// Clear returns the greatest payments that clear a market.
func Clear(cash []int, debts [][]int) ([]api.Num, api.Errno) {
	m, e := newMarket(cash, debts)
	if e != api.OK {
		return nil, e
	}
	payments, _ := m.failing()
	return written(payments), api.OK
}

// Least returns the least payments that clear a market.
func Least(cash []int, debts [][]int) ([]api.Num, api.Errno) {
	m, e := newMarket(cash, debts)
	if e != api.OK {
		return nil, e
	}
	payments, _ := m.withoutIdle().failing()
	return written(payments), api.OK
}

// Clears reports whether payments clear a market.
func Clears(cash []int, debts [][]int, payments []api.Num) (bool, api.Errno) {
	m, e := newMarket(cash, debts)
	if e != api.OK {
		return false, e
	}
	if len(payments) != len(cash) {
		return false, api.ErrForm
	}
	var paid []exact.Ratio
	for _, n := range payments {
		payment, ok := exact.Read(n, maxPaid)
		if !ok {
			return false, api.ErrForm
		}
		paid = append(paid, payment)
	}
	return m.clearedBy(paid), api.OK
}

// Keeps returns what each firm keeps.
func Keeps(cash []int, debts [][]int) ([]api.Num, api.Errno) {
	m, e := newMarket(cash, debts)
	if e != api.OK {
		return nil, e
	}
	payments, _ := m.failing()
	var kept []exact.Ratio
	for firm, payment := range payments {
		kept = append(kept, m.has(firm, payments).Minus(payment))
	}
	return written(kept), api.OK
}

// Fails returns who fails in each round.
func Fails(cash []int, debts [][]int) ([][]int, api.Errno) {
	m, e := newMarket(cash, debts)
	if e != api.OK {
		return nil, e
	}
	_, rounds := m.failing()
	return rounds, api.OK
}

func written(numbers []exact.Ratio) []api.Num {
	list := make([]api.Num, len(numbers))
	for i, number := range numbers {
		list[i] = number.Num()
	}
	return list
}
