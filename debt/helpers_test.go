package debt

import (
	"math/big"
	"math/rand"
	"slices"
	"strings"
	"testing"

	"pommel/api"
)

func same(a, b [][]int) bool { return slices.EqualFunc(a, b, slices.Equal[[]int]) }

func clone(matrix [][]int) [][]int {
	out := make([][]int, len(matrix))
	for i, row := range matrix {
		out[i] = slices.Clone(row)
	}
	return out
}

func total(matrix [][]int) int {
	t := 0
	for _, row := range matrix {
		for _, n := range row {
			t += n
		}
	}
	return t
}

// square returns a matrix of zeros.
func square(n int) [][]int {
	out := make([][]int, n)
	for i := range out {
		out[i] = make([]int, n)
	}
	return out
}

// someDebts returns debts of which some are 0, each at most most.
func someDebts(r *rand.Rand, n, most int) [][]int {
	debts := square(n)
	dense := r.Intn(4) + 1
	for i := range n {
		for j := range n {
			if i != j && r.Intn(5) < dense {
				debts[i][j] = r.Intn(most + 1)
			}
		}
	}
	return debts
}

// someMarket returns a market; often there is so little cash that some firms are not reached by any.
func someMarket(r *rand.Rand) ([]int, [][]int) {
	n := r.Intn(api.MaxFirms) + 1
	most := []int{1, 3, 10, api.MaxDebt}[r.Intn(4)]
	cash := make([]int, n)
	for i := range cash {
		if r.Intn(3) == 0 {
			cash[i] = r.Intn(most + 1)
		}
	}
	return cash, someDebts(r, n, most)
}

// rat reads a Num without the program's own reader, and checks that it is in lowest terms.
func rat(t *testing.T, n api.Num) *big.Rat {
	t.Helper()
	x, ok := new(big.Rat).SetString(string(n))
	if !ok || strings.TrimSuffix(x.String(), "/1") != string(n) {
		t.Fatalf("not a Num: %q", n)
	}
	return x
}

func rats(t *testing.T, list []api.Num) []*big.Rat {
	t.Helper()
	var out []*big.Rat
	for _, n := range list {
		out = append(out, rat(t, n))
	}
	return out
}

func nums(list []*big.Rat) []api.Num {
	var out []api.Num
	for _, x := range list {
		out = append(out, api.Num(strings.TrimSuffix(x.String(), "/1")))
	}
	return out
}

func whole(n int) *big.Rat { return big.NewRat(int64(n), 1) }

// dueAndHad returns the total of a firm, and its cash and what it receives.
func dueAndHad(cash []int, debts [][]int, payments []*big.Rat, firm int) (*big.Rat, *big.Rat) {
	has := whole(cash[firm])
	for j, row := range debts {
		owed := 0
		for _, n := range row {
			owed += n
		}
		if owed > 0 {
			has.Add(has, new(big.Rat).Mul(payments[j], big.NewRat(int64(row[firm]), int64(owed))))
		}
	}
	due := 0
	for _, n := range debts[firm] {
		due += n
	}
	return whole(due), has
}

// clears decides by the definition whether payments clear.
func clears(cash []int, debts [][]int, payments []*big.Rat) bool {
	for i, p := range payments {
		due, has := dueAndHad(cash, debts, payments, i)
		if has.Cmp(due) < 0 {
			due = has
		}
		if p.Sign() < 0 || p.Cmp(due) != 0 {
			return false
		}
	}
	return true
}

func mustClear(t *testing.T, cash []int, debts [][]int) []*big.Rat {
	t.Helper()
	l, e := Clear(cash, debts)
	if e != api.OK || len(l) != len(cash) {
		t.Fatalf("Clear(%v, %v) = %v, %d", cash, debts, l, e)
	}
	return rats(t, l)
}

func mustLeast(t *testing.T, cash []int, debts [][]int) []*big.Rat {
	t.Helper()
	l, e := Least(cash, debts)
	if e != api.OK || len(l) != len(cash) {
		t.Fatalf("Least(%v, %v) = %v, %d", cash, debts, l, e)
	}
	return rats(t, l)
}
