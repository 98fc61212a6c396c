package debt

import (
	"math"
	"math/rand"
	"slices"
	"testing"

	"pommel/api"
)

func TestCancel(t *testing.T) {
	cases := []struct {
		debts, rest [][]int
		less        int
	}{
		{[][]int{{0}}, [][]int{{0}}, 0},
		{[][]int{{0, 0}, {0, 0}}, [][]int{{0, 0}, {0, 0}}, 0},
		{[][]int{{0, 5}, {5, 0}}, [][]int{{0, 0}, {0, 0}}, 10},
		{[][]int{{0, 5}, {2, 0}}, [][]int{{0, 3}, {0, 0}}, 4},
		{[][]int{{0, 5, 0}, {0, 0, 3}, {4, 0, 0}}, [][]int{{0, 2, 0}, {0, 0, 0}, {1, 0, 0}}, 9},
		{[][]int{{0, 1, 1}, {0, 0, 1}, {0, 0, 0}}, [][]int{{0, 1, 1}, {0, 0, 1}, {0, 0, 0}}, 0},
		// Of two rings that share a debt the longer one cancels more.
		{[][]int{{0, 1, 0, 0}, {1, 0, 1, 0}, {0, 0, 0, 1}, {1, 0, 0, 0}}, [][]int{{0, 0, 0, 0}, {1, 0, 0, 0}, {0, 0, 0, 0}, {0, 0, 0, 0}}, 4},
	}
	for _, c := range cases {
		if rest, less, e := Cancel(c.debts); e != api.OK || less != c.less || !same(rest, c.rest) {
			t.Errorf("Cancel(%v) = %v, %d, %d", c.debts, rest, less, e)
		}
	}
}

// net returns what each firm owes minus what it is owed.
func net(debts [][]int) []int {
	out := make([]int, len(debts))
	for i, row := range debts {
		for j, n := range row {
			out[i] += n
			out[j] -= n
		}
	}
	return out
}

func within(debts, rest [][]int) bool {
	for i, row := range rest {
		for j, n := range row {
			if n < 0 || n > debts[i][j] {
				return false
			}
		}
	}
	return slices.Equal(net(debts), net(rest))
}

// hasRing reports whether there is a ring of debts above 0.
func hasRing(debts [][]int) bool {
	n := len(debts)
	reach := make([][]bool, n)
	for i := range n {
		reach[i] = make([]bool, n)
		for j := range n {
			reach[i][j] = debts[i][j] > 0
		}
	}
	for k := range n {
		for i := range n {
			for j := range n {
				reach[i][j] = reach[i][j] || reach[i][k] && reach[k][j]
			}
		}
	}
	for i := range n {
		if reach[i][i] {
			return true
		}
	}
	return false
}

// everyRest calls a function with each matrix that is nowhere below 0 or greater than the debts.
func everyRest(debts [][]int, visit func(rest [][]int)) {
	n := len(debts)
	rest := square(n)
	var fill func(at int)
	fill = func(at int) {
		if at == n*n {
			visit(rest)
			return
		}
		for value := range debts[at/n][at%n] + 1 {
			rest[at/n][at%n] = value
			fill(at + 1)
		}
	}
	fill(0)
}

// TestCancelled: D4, P1 and P3: the least sum of all, without a ring.
func TestCancelled(t *testing.T) {
	r := rand.New(rand.NewSource(1))
	for range 300 {
		debts := someDebts(r, r.Intn(3)+1, 3)
		if r.Intn(4) == 0 {
			debts = someDebts(r, 4, 1)
		}
		rest, less, e := Cancel(debts)
		if e != api.OK || !within(debts, rest) || less != total(debts)-total(rest) || hasRing(rest) {
			t.Fatalf("Cancel(%v) = %v, %d, %d", debts, rest, less, e)
		}
		everyRest(debts, func(other [][]int) {
			if within(debts, other) && total(other) < total(rest) {
				t.Fatalf("Cancel(%v) = %v, but %v", debts, rest, other)
			}
		})
	}
}

// TestProof: D5 and P2; the prices, checked here by the definition, prove the sum.
func TestProof(t *testing.T) {
	r := rand.New(rand.NewSource(2))
	for range 2000 {
		n := r.Intn(api.MaxFirms) + 1
		debts := someDebts(r, n, []int{1, 2, 10, api.MaxDebt}[r.Intn(4)])
		rest, less, e := Cancel(debts)
		if e != api.OK || !within(debts, rest) || less != total(debts)-total(rest) || hasRing(rest) {
			t.Fatalf("Cancel(%v) = %v, %d, %d", debts, rest, less, e)
		}
		prices, e := Prices(debts)
		if e != api.OK || len(prices) != n || !provesByHand(debts, rest, prices) {
			t.Fatalf("Prices(%v) = %v, %d; the rest is %v", debts, prices, e, rest)
		}
		if ok, e := Proves(debts, rest, prices); e != api.OK || !ok {
			t.Fatalf("Proves(%v, %v, %v) = %t, %d", debts, rest, prices, ok, e)
		}
	}
}

func provesByHand(debts, rest [][]int, prices []int) bool {
	if !within(debts, rest) {
		return false
	}
	for i := range prices {
		for j := range prices {
			if i == j {
				continue
			}
			if rest[i][j] > 0 && prices[j]-prices[i] < 1 {
				return false
			}
			if rest[i][j] < debts[i][j] && prices[j]-prices[i] > 1 {
				return false
			}
		}
	}
	return true
}

// TestProved: D5: all that Proves accepts has the same sum, and it accepts just what the definition does.
func TestProved(t *testing.T) {
	r := rand.New(rand.NewSource(3))
	accepted := 0
	for range 40 {
		debts := someDebts(r, 3, 2)
		least, _, _ := Cancel(debts)
		everyRest(debts, func(rest [][]int) {
			for code := range 5 * 5 * 5 {
				prices := []int{code%5 - 2, code/5%5 - 2, code/25 - 2}
				ok, e := Proves(debts, rest, prices)
				if e != api.OK || ok != provesByHand(debts, rest, prices) || ok && total(rest) != total(least) {
					t.Fatalf("Proves(%v, %v, %v) = %t, %d", debts, rest, prices, ok, e)
				}
				if ok {
					accepted++
				}
			}
		})
	}
	if accepted == 0 {
		t.Fatal("nothing was accepted")
	}
}

func TestProves(t *testing.T) {
	ring, one := [][]int{{0, 5}, {5, 0}}, [][]int{{0, 5}, {0, 0}}
	cases := []struct {
		debts, rest [][]int
		prices      []int
		want        bool
	}{
		{[][]int{{0}}, [][]int{{0}}, []int{1000}, true},
		{[][]int{{0}}, [][]int{{1}}, []int{0}, false},
		{ring, square(2), []int{0, 0}, true},
		{ring, square(2), []int{0, 1}, true},
		{ring, square(2), []int{0, 2}, false},
		{ring, ring, []int{0, 0}, false},
		{ring, [][]int{{0, 1}, {1, 0}}, []int{0, 0}, false},
		{ring, [][]int{{0, -1}, {-1, 0}}, []int{0, 0}, false},
		{ring, [][]int{{0, 6}, {6, 0}}, []int{0, 0}, false},
		{ring, [][]int{{0, 1}, {0, 0}}, []int{0, 1}, false},
		{ring, [][]int{{0, math.MaxInt}, {math.MinInt, 0}}, []int{0, 1}, false},
		{one, one, []int{0, 1}, true},
		{one, one, []int{0, 0}, false},
		{one, one, []int{-1000, 1000}, true},
		{one, one, []int{1000, -1000}, false},
	}
	for _, c := range cases {
		if ok, e := Proves(c.debts, c.rest, c.prices); e != api.OK || ok != c.want {
			t.Errorf("Proves(%v, %v, %v) = %t, %d", c.debts, c.rest, c.prices, ok, e)
		}
	}
}

func TestRingErrors(t *testing.T) {
	for _, debts := range badDebts() {
		if rest, less, e := Cancel(debts); e != api.ErrArg || len(rest) != 0 || less != 0 {
			t.Errorf("Cancel(%v) = %v, %d, %d", debts, rest, less, e)
		}
		if prices, e := Prices(debts); e != api.ErrArg || len(prices) != 0 {
			t.Errorf("Prices(%v) = %v, %d", debts, prices, e)
		}
		for _, prices := range [][]int{nil, make([]int, len(debts))} {
			if ok, e := Proves(debts, debts, prices); e != api.ErrArg || ok {
				t.Errorf("Proves(%v) = %t, %d", debts, ok, e)
			}
		}
	}
	debts := [][]int{{0, 5}, {5, 0}}
	for _, rest := range [][][]int{nil, {}, {{0, 0}}, {{0, 0}, {0}}, {{0, 0}, nil}, {{0, 0}, {0, 0, 0}}, square(3)} {
		if ok, e := Proves(debts, rest, []int{0, 0}); e != api.ErrForm || ok {
			t.Errorf("Proves with rest %v = %t, %d", rest, ok, e)
		}
	}
	for _, prices := range [][]int{nil, {}, {0}, {0, 0, 0}, {1001, 0}, {0, -1001}, {math.MaxInt, 0}, {0, math.MinInt}} {
		if ok, e := Proves(debts, square(2), prices); e != api.ErrForm || ok {
			t.Errorf("Proves with prices %v = %t, %d", prices, ok, e)
		}
	}
}

// TestRingArguments: R5, R6 and P6.
func TestRingArguments(t *testing.T) {
	r := rand.New(rand.NewSource(4))
	for range 200 {
		debts := someDebts(r, r.Intn(api.MaxFirms)+1, 9)
		before := clone(debts)
		rest, less, _ := Cancel(debts)
		prices, _ := Prices(debts)
		left, asked := clone(rest), slices.Clone(prices)
		Proves(debts, rest, prices)
		if !same(before, debts) || !same(left, rest) || !slices.Equal(asked, prices) {
			t.Fatalf("%v: arguments were changed", before)
		}
		for i, row := range rest {
			row = row[:cap(row)]
			for j := range row {
				row[j] = -1
			}
			for k := i + 1; k < len(rest); k++ {
				if !slices.Equal(rest[k], left[k]) {
					t.Fatalf("%v: two rows of a result share memory", before)
				}
			}
		}
		clear(prices)
		again, by, _ := Cancel(debts)
		priced, _ := Prices(debts)
		if !same(before, debts) || !same(again, left) || by != less || !slices.Equal(priced, asked) {
			t.Fatalf("%v: results share memory, or differ", before)
		}
	}
}
