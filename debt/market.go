package debt

import (
	"pommel/api"
	"pommel/exact"
)

// market is cash and debts of firms, and what each firm owes in total.
type market struct {
	cash   []int
	debts  [][]int
	totals []int
}

func newMarket(cash []int, debts [][]int) (market, api.Errno) {
	if len(cash) != len(debts) || !areDebts(debts) {
		return market{}, api.ErrArg
	}
	for _, c := range cash {
		if c < 0 || c > api.MaxDebt {
			return market{}, api.ErrArg
		}
	}
	m := market{cash: make([]int, len(cash)), debts: copied(debts), totals: make([]int, len(cash))}
	copy(m.cash, cash)
	for firm, row := range debts {
		m.totals[firm] = sum(row)
	}
	return m, api.OK
}

// areDebts reports whether a matrix is the debts of a market.
func areDebts(debts [][]int) bool {
	n := len(debts)
	if n < 1 || n > api.MaxFirms {
		return false
	}
	for i, row := range debts {
		if len(row) != n || row[i] != 0 {
			return false
		}
		for _, debt := range row {
			if debt < 0 || debt > api.MaxDebt {
				return false
			}
		}
	}
	return true
}

// copied copies a matrix row by row, so that no two rows share memory.
func copied(matrix [][]int) [][]int {
	out := make([][]int, len(matrix))
	for i, row := range matrix {
		out[i] = make([]int, len(row))
		copy(out[i], row)
	}
	return out
}

func sum(row []int) int {
	total := 0
	for _, n := range row {
		total += n
	}
	return total
}

// has returns a firm's cash and what it receives by some payments.
func (m market) has(firm int, payments []exact.Ratio) exact.Ratio {
	has := exact.Whole(m.cash[firm])
	for from, row := range m.debts {
		if row[firm] > 0 {
			share := exact.Whole(row[firm]).Over(exact.Whole(m.totals[from]))
			has = has.Plus(payments[from].Times(share))
		}
	}
	return has
}

func (m market) clearedBy(payments []exact.Ratio) bool {
	for firm, payment := range payments {
		due := exact.Whole(m.totals[firm])
		has := m.has(firm, payments)
		if has.Compare(due) < 0 {
			due = has
		}
		if payment.Sign() < 0 || payment.Compare(due) != 0 {
			return false
		}
	}
	return true
}

// failing returns the greatest payments that clear the market, and who fails in each round.
func (m market) failing() ([]exact.Ratio, [][]int) {
	var rounds [][]int
	failed := make([]bool, len(m.cash))
	for {
		payments := m.payments(failed)
		var next []int
		for firm, total := range m.totals {
			if !failed[firm] && m.has(firm, payments).Compare(exact.Whole(total)) < 0 {
				next = append(next, firm)
			}
		}
		if len(next) == 0 {
			return payments, rounds
		}
		for _, firm := range next {
			failed[firm] = true
		}
		rounds = append(rounds, next)
	}
}

// payments returns what all firms pay if those that have failed pay what they have, and the others their totals.
func (m market) payments(failed []bool) []exact.Ratio {
	var poor []int
	for firm, f := range failed {
		if f {
			poor = append(poor, firm)
		}
	}
	parts := solve(m.equations(failed, poor))
	payments := make([]exact.Ratio, len(m.totals))
	for firm, total := range m.totals {
		payments[firm] = exact.Whole(total)
	}
	for i, firm := range poor {
		payments[firm] = payments[firm].Times(parts[i])
	}
	return payments
}

// equations returns, for each poor firm, the equation that it pays what it has;
// the unknowns are the parts of their totals that poor firms pay, so that all coefficients are integers.
func (m market) equations(failed []bool, poor []int) [][]exact.Ratio {
	var rows [][]exact.Ratio
	for _, firm := range poor {
		has := m.cash[firm]
		for from, f := range failed {
			if !f {
				has += m.debts[from][firm]
			}
		}
		var row []exact.Ratio
		for _, from := range poor {
			coefficient := -m.debts[from][firm]
			if from == firm {
				coefficient = m.totals[firm]
			}
			row = append(row, exact.Whole(coefficient))
		}
		rows = append(rows, append(row, exact.Whole(has)))
	}
	return rows
}

// solve eliminates one unknown after the other, in place.
//
// No pivot is 0: firms that fail never owe to each other alone, as together they would then lack nothing.
// So the columns of each part of the matrix are dominated by its diagonal, and each part of the firms
// has one whose column is so strictly.
func solve(rows [][]exact.Ratio) []exact.Ratio {
	n := len(rows)
	for i := range n {
		for j := range n {
			if i != j {
				eliminate(rows[j], rows[i], i)
			}
		}
	}
	solution := make([]exact.Ratio, n)
	for i, row := range rows {
		solution[i] = row[n].Over(row[i])
	}
	return solution
}

// eliminate subtracts that multiple of a row by which a column becomes 0.
func eliminate(from, row []exact.Ratio, column int) {
	times := from[column].Over(row[column])
	if times.Sign() == 0 {
		return
	}
	for k := range from {
		from[k] = from[k].Minus(times.Times(row[k]))
	}
}

// withoutIdle returns the market without the debts of firms that no cash reaches along debts.
// Nothing makes these firms pay, as they may all wait for each other; the payments of the others are unique.
func (m market) withoutIdle() market {
	reached := make([]bool, len(m.cash))
	var reach func(firm int)
	reach = func(firm int) {
		if reached[firm] {
			return
		}
		reached[firm] = true
		for to, debt := range m.debts[firm] {
			if debt > 0 {
				reach(to)
			}
		}
	}
	for firm, cash := range m.cash {
		if cash > 0 {
			reach(firm)
		}
	}
	out := market{cash: m.cash, debts: copied(m.debts), totals: make([]int, len(m.totals))}
	for firm, total := range m.totals {
		if reached[firm] {
			out.totals[firm] = total
		} else {
			clear(out.debts[firm])
		}
	}
	return out
}
