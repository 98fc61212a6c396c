package debt

import (
	"math"
	"math/big"
	"math/rand"
	"slices"
	"strings"
	"testing"

	"pommel/api"
)

// marketCase is a market whose results were worked out by hand.
type marketCase struct {
	name                string
	cash                []int
	debts               [][]int
	clear, least, keeps []api.Num
	fails               [][]int
}

var marketCases = []marketCase{
	{"two firms", []int{1, 0}, [][]int{{0, 4}, {2, 0}}, []api.Num{"3", "2"}, []api.Num{"3", "2"}, []api.Num{"0", "1"}, [][]int{{0}}},
	{"a ring without cash", []int{0, 0}, [][]int{{0, 5}, {5, 0}}, []api.Num{"5", "5"}, []api.Num{"0", "0"}, []api.Num{"0", "0"}, nil},
	{"an uneven ring without cash", []int{0, 0}, [][]int{{0, 5}, {3, 0}}, []api.Num{"3", "3"}, []api.Num{"0", "0"}, []api.Num{"0", "0"}, [][]int{{0}}},
	{"a ring with cash", []int{1, 0}, [][]int{{0, 5}, {3, 0}}, []api.Num{"4", "3"}, []api.Num{"4", "3"}, []api.Num{"0", "1"}, [][]int{{0}}},
	{"one firm", []int{7}, [][]int{{0}}, []api.Num{"0"}, []api.Num{"0"}, []api.Num{"7"}, nil},
	{"no debts", []int{3, 0}, [][]int{{0, 0}, {0, 0}}, []api.Num{"0", "0"}, []api.Num{"0", "0"}, []api.Num{"3", "0"}, nil},
	{"just enough", []int{4, 0}, [][]int{{0, 4}, {0, 0}}, []api.Num{"4", "0"}, []api.Num{"4", "0"}, []api.Num{"0", "4"}, nil},
	{"in proportion", []int{1, 0, 0}, [][]int{{0, 1, 2}, {0, 0, 0}, {0, 0, 0}}, []api.Num{"1", "0", "0"}, []api.Num{"1", "0", "0"}, []api.Num{"0", "1/3", "2/3"}, [][]int{{0}}},
	{"one after the other", []int{1, 0, 0, 0}, [][]int{{0, 2, 0, 0}, {0, 0, 2, 0}, {0, 0, 0, 2}, {0, 0, 0, 0}},
		[]api.Num{"1", "1", "1", "0"}, []api.Num{"1", "1", "1", "0"}, []api.Num{"0", "0", "0", "1"}, [][]int{{0}, {1}, {2}}},
	{"two fail at once", []int{1, 1, 0}, [][]int{{0, 0, 2}, {0, 0, 3}, {0, 0, 0}}, []api.Num{"1", "1", "0"}, []api.Num{"1", "1", "0"}, []api.Num{"0", "0", "2"}, [][]int{{0, 1}}},
	{"a ring that nobody outside pays", []int{0, 0, 5}, [][]int{{0, 2, 0}, {2, 0, 0}, {0, 0, 0}}, []api.Num{"2", "2", "0"}, []api.Num{"0", "0", "0"}, []api.Num{"0", "0", "5"}, nil},
	{"a ring that is paid from outside", []int{0, 0, 1}, [][]int{{0, 2, 0}, {2, 0, 0}, {1, 0, 0}}, []api.Num{"2", "2", "1"}, []api.Num{"2", "2", "1"}, []api.Num{"1", "0", "0"}, nil},
	{"a ring that pays outside", []int{0, 0, 0}, [][]int{{0, 2, 1}, {2, 0, 0}, {0, 0, 0}}, []api.Num{"0", "0", "0"}, []api.Num{"0", "0", "0"}, []api.Num{"0", "0", "0"}, [][]int{{0}, {1}}},
}

func TestMarkets(t *testing.T) {
	for _, c := range marketCases {
		if l, e := Clear(c.cash, c.debts); e != api.OK || !slices.Equal(l, c.clear) {
			t.Errorf("%s: Clear = %v, %d", c.name, l, e)
		}
		if l, e := Least(c.cash, c.debts); e != api.OK || !slices.Equal(l, c.least) {
			t.Errorf("%s: Least = %v, %d", c.name, l, e)
		}
		if l, e := Keeps(c.cash, c.debts); e != api.OK || !slices.Equal(l, c.keeps) {
			t.Errorf("%s: Keeps = %v, %d", c.name, l, e)
		}
		if l, e := Fails(c.cash, c.debts); e != api.OK || !same(l, c.fails) {
			t.Errorf("%s: Fails = %v, %d", c.name, l, e)
		}
	}
}

// iterated applies the rule of clearing again and again, which comes closer and closer to what clears.
func iterated(cash []int, debts [][]int, payments []float64) {
	n := len(cash)
	totals := make([]float64, n)
	for i, row := range debts {
		for _, d := range row {
			totals[i] += float64(d)
		}
	}
	for range 4000 {
		next := make([]float64, n)
		for i := range n {
			has := float64(cash[i])
			for j := range n {
				if totals[j] > 0 {
					has += payments[j] * float64(debts[j][i]) / totals[j]
				}
			}
			next[i] = min(totals[i], has)
		}
		copy(payments, next)
	}
}

// TestExtremes: D1, P1 and P3: from above the rule leads to the greatest payments that clear, from below to the least ones.
func TestExtremes(t *testing.T) {
	r := rand.New(rand.NewSource(1))
	for range 400 {
		n, most := r.Intn(5)+1, r.Intn(4)+1
		debts := someDebts(r, n, most)
		cash := make([]int, n)
		for i := range cash {
			cash[i] = r.Intn(3) / 2 * r.Intn(3)
		}
		above, below := make([]float64, n), make([]float64, n)
		for i := range above {
			above[i] = float64(most * n)
		}
		iterated(cash, debts, above)
		iterated(cash, debts, below)
		greatest, least := mustClear(t, cash, debts), mustLeast(t, cash, debts)
		for i := range n {
			g, _ := greatest[i].Float64()
			l, _ := least[i].Float64()
			if math.Abs(g-above[i]) > 1e-6 || math.Abs(l-below[i]) > 1e-6 {
				t.Fatalf("%v, %v: Clear %v, Least %v; by iteration %v, %v", cash, debts, greatest, least, above, below)
			}
		}
	}
}

// between returns a + (b - a) * at.
func between(a, b []*big.Rat, at *big.Rat) []*big.Rat {
	var out []*big.Rat
	for i := range a {
		d := new(big.Rat).Sub(b[i], a[i])
		out = append(out, d.Mul(d, at).Add(d, a[i]))
	}
	return out
}

func checkClears(t *testing.T, cash []int, debts [][]int, payments []*big.Rat) {
	t.Helper()
	ok, e := Clears(cash, debts, nums(payments))
	if e != api.OK || ok != clears(cash, debts, payments) {
		t.Fatalf("Clears(%v, %v, %v) = %t, %d", cash, debts, payments, ok, e)
	}
}

func keeps(cash []int, debts [][]int, payments []*big.Rat) []*big.Rat {
	var out []*big.Rat
	for i, p := range payments {
		_, has := dueAndHad(cash, debts, payments, i)
		out = append(out, has.Sub(has, p))
	}
	return out
}

// TestBetween: D1 and D7.
func TestBetween(t *testing.T) {
	r := rand.New(rand.NewSource(2))
	several := 0
	for range 1500 {
		cash, debts := someMarket(r)
		greatest, least := mustClear(t, cash, debts), mustLeast(t, cash, debts)
		if !clears(cash, debts, greatest) || !clears(cash, debts, least) {
			t.Fatalf("%v, %v: Clear %v or Least %v does not clear", cash, debts, greatest, least)
		}
		if !slices.Equal(nums(greatest), nums(least)) {
			several++
		}
		for i := range greatest {
			if greatest[i].Cmp(least[i]) < 0 {
				t.Fatalf("%v, %v: Clear %v is below Least %v", cash, debts, greatest, least)
			}
		}
		for _, at := range []*big.Rat{whole(0), big.NewRat(1, 3), big.NewRat(1, 2), whole(1), whole(2), whole(-1)} {
			payments := between(least, greatest, at)
			checkClears(t, cash, debts, payments)
			inside := at.Sign() >= 0 && at.Cmp(whole(1)) <= 0 || slices.Equal(nums(greatest), nums(least))
			if clears(cash, debts, payments) != inside {
				t.Fatalf("%v, %v: at %s between %v and %v", cash, debts, at, least, greatest)
			}
			one := r.Intn(len(payments))
			payments[one].Add(payments[one], big.NewRat(int64(r.Intn(3)-1), 7))
			checkClears(t, cash, debts, payments)
		}
		kept, e := Keeps(cash, debts)
		if e != api.OK || !slices.Equal(kept, nums(keeps(cash, debts, greatest))) || !slices.Equal(kept, nums(keeps(cash, debts, least))) {
			t.Fatalf("%v, %v: Keeps %v, %d", cash, debts, kept, e)
		}
		all := whole(0)
		for i, k := range rats(t, kept) {
			if k.Sign() < 0 {
				t.Fatalf("%v, %v: Keeps %v", cash, debts, kept)
			}
			all.Add(all, k).Sub(all, whole(cash[i]))
		}
		if all.Sign() != 0 {
			t.Fatalf("%v, %v: Keeps %v is not all cash", cash, debts, kept)
		}
	}
	if several < 100 {
		t.Fatalf("only %d markets with several payments that clear", several)
	}
}

// TestMore: D2.
func TestMore(t *testing.T) {
	r := rand.New(rand.NewSource(3))
	for range 500 {
		cash, debts := someMarket(r)
		before := mustClear(t, cash, debts)
		i := r.Intn(len(cash))
		cash[i] += r.Intn(api.MaxDebt - cash[i] + 1)
		for k, p := range mustClear(t, cash, debts) {
			if p.Cmp(before[k]) < 0 {
				t.Fatalf("%v, %v: firm %d pays less", cash, debts, k)
			}
		}
	}
}

// roundsByHand follows the chapter's rounds; of payments below the totals the greatest ones are found by iteration.
func roundsByHand(cash []int, debts [][]int) [][]int {
	n := len(cash)
	totals, payments := make([]float64, n), make([]float64, n)
	for i, row := range debts {
		for _, d := range row {
			totals[i] += float64(d)
		}
	}
	copy(payments, totals)
	failed := make([]bool, n)
	var rounds [][]int
	for {
		has := make([]float64, n)
		for step := range 3000 {
			for i := range n {
				has[i] = float64(cash[i])
				for j := range n {
					if totals[j] > 0 {
						has[i] += payments[j] * float64(debts[j][i]) / totals[j]
					}
				}
			}
			for i := range n {
				if failed[i] && step < 2999 {
					payments[i] = min(totals[i], has[i])
				}
			}
		}
		var next []int
		for i := range n {
			if !failed[i] && has[i] < totals[i]-1e-7 {
				next = append(next, i)
			}
		}
		if len(next) == 0 {
			return rounds
		}
		for _, i := range next {
			failed[i] = true
		}
		rounds = append(rounds, next)
	}
}

// TestRounds: D3, and the rounds themselves.
func TestRounds(t *testing.T) {
	r := rand.New(rand.NewSource(4))
	most := 0
	for range 300 {
		n := r.Intn(6) + 1
		cash, debts := make([]int, n), someDebts(r, n, 4)
		for i := range cash {
			cash[i] = r.Intn(6)
		}
		rounds, e := Fails(cash, debts)
		if e != api.OK || !same(rounds, roundsByHand(cash, debts)) {
			t.Fatalf("%v, %v: Fails %v, %d; by hand %v", cash, debts, rounds, e, roundsByHand(cash, debts))
		}
		most = max(most, len(rounds))
		checkFailed(t, cash, debts, rounds)
	}
	if most < 3 {
		t.Fatalf("at most %d rounds", most)
	}
	for range 1000 {
		cash, debts := someMarket(r)
		rounds, e := Fails(cash, debts)
		if e != api.OK {
			t.Fatalf("%v, %v: Fails: %d", cash, debts, e)
		}
		checkFailed(t, cash, debts, rounds)
	}
}

func checkFailed(t *testing.T, cash []int, debts [][]int, rounds [][]int) {
	t.Helper()
	times := make([]int, len(cash))
	for _, round := range rounds {
		if len(round) == 0 || !slices.IsSorted(round) {
			t.Fatalf("%v, %v: Fails %v", cash, debts, rounds)
		}
		for _, firm := range round {
			times[firm]++
		}
	}
	payments := mustClear(t, cash, debts)
	for i, p := range payments {
		due, _ := dueAndHad(cash, debts, payments, i)
		want := 0
		if p.Cmp(due) < 0 {
			want = 1
		}
		if times[i] != want {
			t.Fatalf("%v, %v: firm %d pays %s of %s, Fails %v", cash, debts, i, p, due, rounds)
		}
	}
}

// TestGreat: P1 and R7 with numbers at their limits.
func TestGreat(t *testing.T) {
	r := rand.New(rand.NewSource(5))
	for range 20 {
		n := api.MaxFirms
		cash, debts := make([]int, n), square(n)
		for i := range n {
			for j := range n {
				if i != j {
					debts[i][j] = api.MaxDebt - r.Intn(10)
				}
			}
		}
		cash[r.Intn(n)] = 1 // it reaches all firms, so just one list of payments clears
		greatest, least := mustClear(t, cash, debts), mustLeast(t, cash, debts)
		if !clears(cash, debts, greatest) || !slices.Equal(nums(least), nums(greatest)) {
			t.Fatalf("%v, %v: Clear %v, Least %v", cash, debts, greatest, least)
		}
	}
}

func TestClears(t *testing.T) {
	ring, none := [][]int{{0, 5}, {5, 0}}, []int{0, 0}
	// With fortieth digits that matter.
	thin := api.Num("1/1" + strings.Repeat("0", 39))
	wide := api.Num(strings.Repeat("9", 40))
	cases := []struct {
		cash     []int
		debts    [][]int
		payments []api.Num
		want     bool
	}{
		{none, ring, []api.Num{"5", "5"}, true},
		{none, ring, []api.Num{"0", "0"}, true},
		{none, ring, []api.Num{"7/2", "7/2"}, true},
		{none, ring, []api.Num{thin, thin}, true},
		{none, ring, []api.Num{"6", "6"}, false},
		{none, ring, []api.Num{"1", "2"}, false},
		{none, ring, []api.Num{thin, "0"}, false},
		{none, ring, []api.Num{wide, wide}, false},
		{none, ring, []api.Num{"-1", "-1"}, false},
		{[]int{1, 0}, [][]int{{0, 4}, {2, 0}}, []api.Num{"3", "2"}, true},
		{[]int{1, 0}, [][]int{{0, 4}, {2, 0}}, []api.Num{"1", "1"}, false},
		{[]int{5}, [][]int{{0}}, []api.Num{"0"}, true},
		{[]int{5}, [][]int{{0}}, []api.Num{"1"}, false},
	}
	for _, c := range cases {
		if ok, e := Clears(c.cash, c.debts, c.payments); e != api.OK || ok != c.want {
			t.Errorf("Clears(%v, %v, %v) = %t, %d", c.cash, c.debts, c.payments, ok, e)
		}
	}
}

func TestClearsForm(t *testing.T) {
	ring := [][]int{{0, 5}, {5, 0}}
	long := strings.Repeat("1", 41)
	bad := []string{"", "-", "-0", "+1", "01", "1/1", "2/4", "1/0", "0/5", "1/02", "1/-2", "1/", "/2", " 1", "1.5", long, "-" + long, "1/" + long}
	for _, s := range bad {
		for _, l := range [][]api.Num{{api.Num(s), "0"}, {"0", api.Num(s)}, {"-1", api.Num(s)}} {
			if ok, e := Clears([]int{0, 0}, ring, l); e != api.ErrForm || ok {
				t.Errorf("Clears of %q = %t, %d", l, ok, e)
			}
		}
	}
	for _, l := range [][]api.Num{nil, {}, {"0"}, {"0", "0", "0"}} {
		if ok, e := Clears([]int{0, 0}, ring, l); e != api.ErrForm || ok {
			t.Errorf("Clears of %q = %t, %d", l, ok, e)
		}
		if ok, e := Clears([]int{0, -1}, ring, l); e != api.ErrArg || ok { // R2
			t.Errorf("Clears of %q, cash below 0 = %t, %d", l, ok, e)
		}
	}
}

// badDebts are matrices that are no debts.
func badDebts() [][][]int {
	return [][][]int{
		nil, {}, {nil}, {{}}, {{1}}, {{-1}}, {{0, 0}}, {{0}, {0}}, {{0, 1}, {1}}, {{0, 1}, {1, 0, 0}}, {{0, 1}, nil},
		{{0, 1}, {1, 1}}, {{0, -1}, {1, 0}}, {{0, 1}, {api.MaxDebt + 1, 0}}, {{0, math.MaxInt}, {1, 0}}, {{0, math.MinInt}, {1, 0}},
		{{0, 1}, {1, 0}, {0, 0}}, square(api.MaxFirms + 1),
	}
}

// badMarkets are pairs of cash and debts that are no markets.
func badMarkets() ([][]int, [][][]int) {
	debts := badDebts()
	var cash [][]int
	for _, d := range debts {
		cash = append(cash, make([]int, len(d)))
	}
	ring := [][]int{{0, 5}, {5, 0}}
	for _, c := range [][]int{nil, {}, {0}, {0, 0, 0}, {-1, 0}, {0, -1}, {api.MaxDebt + 1, 0}, {0, math.MaxInt}, {math.MinInt, 0}} {
		cash, debts = append(cash, c), append(debts, ring)
	}
	return cash, debts
}

func TestMarketErrors(t *testing.T) {
	cash, debts := badMarkets()
	for i, d := range debts {
		c := cash[i]
		if l, e := Clear(c, d); e != api.ErrArg || len(l) != 0 {
			t.Errorf("Clear(%v, %v) = %v, %d", c, d, l, e)
		}
		if l, e := Least(c, d); e != api.ErrArg || len(l) != 0 {
			t.Errorf("Least(%v, %v) = %v, %d", c, d, l, e)
		}
		if l, e := Keeps(c, d); e != api.ErrArg || len(l) != 0 {
			t.Errorf("Keeps(%v, %v) = %v, %d", c, d, l, e)
		}
		if l, e := Fails(c, d); e != api.ErrArg || len(l) != 0 {
			t.Errorf("Fails(%v, %v) = %v, %d", c, d, l, e)
		}
		for _, l := range [][]api.Num{nil, make([]api.Num, len(c)), {"0", "0"}} {
			if ok, e := Clears(c, d, l); e != api.ErrArg || ok {
				t.Errorf("Clears(%v, %v, %q) = %t, %d", c, d, l, ok, e)
			}
		}
	}
	full := square(api.MaxFirms)
	full[0][1] = api.MaxDebt
	if _, e := Clear([]int{api.MaxDebt, 0, 0, 0, 0, 0, 0, 0}, full); e != api.OK {
		t.Errorf("Clear at the limits: %d", e)
	}
}

// TestMarketArguments: R5, R6 and P6.
func TestMarketArguments(t *testing.T) {
	r := rand.New(rand.NewSource(6))
	for range 200 {
		cash, debts := someMarket(r)
		if r.Intn(4) == 0 {
			cash[0] = -1
		}
		c, d := slices.Clone(cash), clone(debts)
		payments, e := Clear(cash, debts)
		paid := slices.Clone(payments)
		least, _ := Least(cash, debts)
		kept, _ := Keeps(cash, debts)
		rounds, _ := Fails(cash, debts)
		firm := clone(rounds)
		Clears(cash, debts, payments)
		if !slices.Equal(c, cash) || !same(d, debts) || !slices.Equal(paid, payments) {
			t.Fatalf("%v, %v: arguments were changed", c, d)
		}
		for _, list := range [][]api.Num{payments, least, kept} {
			for i := range list {
				list[i] = "x"
			}
		}
		for _, round := range rounds {
			for i := range round[:cap(round)] {
				round[:cap(round)][i] = -1
			}
		}
		again, f := Clear(cash, debts)
		fails, _ := Fails(cash, debts)
		if e != f || !slices.Equal(again, paid) || !same(fails, firm) || !slices.Equal(c, cash) || !same(d, debts) {
			t.Fatalf("%v, %v: results share memory, or differ", c, d)
		}
	}
}
