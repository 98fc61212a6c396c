package saddler

import (
	"pommel/api"
	"pommel/debt"
)

func (s *Saddler) addFirm(w words) (string, api.Errno) {
	cash, e := added(s.cash, api.MaxFirms, w.number(0))
	if e != api.OK {
		return "", e
	}
	for firm, row := range s.debts {
		s.debts[firm] = append(row, 0)
	}
	s.cash, s.debts = cash, append(s.debts, make([]int, len(cash)))
	return "", api.OK
}

func (s *Saddler) setDebt(w words) (string, api.Errno) {
	from, to := w.number(0), w.number(1)
	if !s.isFirm(from) || !s.isFirm(to) {
		return "", api.ErrArg
	}
	s.debts[from][to] = w.number(2)
	return "", api.OK
}

func (s *Saddler) isFirm(n int) bool {
	return n >= 0 && n < len(s.cash)
}

func (s *Saddler) clearDebts(words) (string, api.Errno) {
	most, e := debt.Clear(s.cash, s.debts)
	least, f := debt.Least(s.cash, s.debts)
	keeps, g := debt.Keeps(s.cash, s.debts)
	rounds, h := debt.Fails(s.cash, s.debts)
	reply := textLine("clear", most...) + textLine("least", least...) + textLine("keeps", keeps...) + rowLines("fails", rounds)
	return reply, firstError(e, f, g, h)
}

func (s *Saddler) cancelDebts(words) (string, api.Errno) {
	rest, less, e := debt.Cancel(s.debts)
	prices, f := debt.Prices(s.debts)
	proves, g := debt.Proves(s.debts, rest, prices)
	return numberLine("cancelled", less) + answer(proves), firstError(e, f, g)
}

func (s *Saddler) settleBalances(w words) (string, api.Errno) {
	balances := w.numbers(0)
	groups, e := debt.Groups(balances)
	payments, f := debt.Settle(balances)
	return rowLines("group", groups) + numberLine("payments", len(payments)), firstError(e, f)
}
