package kin

import (
	"fmt"
	"math/big"
	"math/rand"
	"slices"
	"strings"
	"testing"

	"pommel/api"
)

func TestExamples(t *testing.T) {
	for _, c := range []struct {
		d                     [][]int
		tree, isolated, joint string // tree: of Tree, or - if they fit none
	}{
		{metric(1), "[]", "[]", "[]"},
		{metric(2, 5), "[{[1] 5}]", "[{[1] 5}]", "[{[1] 5}]"},
		{metric(2, 0), "[]", "[]", "[{[1] 0}]"},
		{metric(2, 10000), "[{[1] 10000}]", "[{[1] 10000}]", "[{[1] 10000}]"},
		{metric(3, 3, 4, 5), "[{[1] 2} {[2] 3} {[1 2] 1}]", "[{[1] 2} {[2] 3} {[1 2] 1}]", "[{[1] 2} {[2] 3} {[1 2] 1}]"},
		{metric(3, 1, 1, 1), "[{[1] 1/2} {[2] 1/2} {[1 2] 1/2}]", "[{[1] 1/2} {[2] 1/2} {[1 2] 1/2}]", "[{[1] 1/2} {[2] 1/2} {[1 2] 1/2}]"},
		{metric(3, 1, 4, 5), "[{[1] 1} {[2] 4}]", "[{[1] 1} {[2] 4}]", "[{[1] 1} {[2] 4} {[1 2] 0}]"}, // the bit 0 between the others
		{metric(3, 5, 1, 4), "[{[1] 4} {[1 2] 1}]", "[{[1] 4} {[1 2] 1}]", "[{[1] 4} {[2] 0} {[1 2] 1}]"},
		{metric(3, 0, 0, 0), "[]", "[]", "[{[1] 0} {[2] 0} {[1 2] 0}]"},
		{metric(3, 0, 3, 3), "[{[2] 3}]", "[{[2] 3}]", "[{[1] 0} {[2] 3} {[1 2] 0}]"},
		{metric(4, 2, 2, 2, 2, 2, 2), "[{[1] 1} {[2] 1} {[3] 1} {[1 2 3] 1}]", "[{[1] 1} {[2] 1} {[3] 1} {[1 2 3] 1}]",
			"[{[1] 1} {[2] 1} {[3] 1} {[2 3] 0} {[1 2 3] 1}]"}, // each pair has the least Q
		{metric(4, 3, 5, 5, 4, 4, 4), "[{[1] 1} {[2] 2} {[3] 2} {[2 3] 1} {[1 2 3] 2}]", "[{[1] 1} {[2] 2} {[3] 2} {[2 3] 1} {[1 2 3] 2}]",
			"[{[1] 1} {[2] 2} {[3] 2} {[2 3] 1} {[1 2 3] 2}]"},
		{metric(4, 1, 2, 1, 1, 2, 1), "-", "[{[1 2] 1} {[2 3] 1}]", "[{[1] 1/2} {[2] 1/2} {[3] 1/2} {[2 3] 1/2} {[1 2 3] 1/2}]"}, // a square
		{metric(4, 1, 1, 2, 2, 1, 1), "-", "[{[1 3] 1} {[2 3] 1}]", "[{[1] 1/2} {[2] 1/2} {[3] 1/2} {[2 3] 1/2} {[1 2 3] 1/2}]"},
		{metric(4, 1, 2, 2, 2, 2, 1), "[{[1] 1/2} {[2] 1/2} {[3] 1/2} {[2 3] 1} {[1 2 3] 1/2}]",
			"[{[1] 1/2} {[2] 1/2} {[3] 1/2} {[2 3] 1} {[1 2 3] 1/2}]", "[{[1] 1/2} {[2] 1/2} {[3] 1/2} {[2 3] 1} {[1 2 3] 1/2}]"},
	} {
		tree, e := Tree(c.d)
		if got := fmt.Sprint(tree); e != api.OK && (e != api.ErrNone || len(tree) > 0 || c.tree != "-") || e == api.OK && got != c.tree {
			t.Errorf("Tree(%v) = %s, %d, want %s", c.d, got, e, c.tree)
		}
		if got := fmt.Sprint(splitsOf(t, Isolated, c.d)); got != c.isolated {
			t.Errorf("Isolated(%v) = %s, want %s", c.d, got, c.isolated)
		}
		if got := fmt.Sprint(splitsOf(t, Join, c.d)); got != c.joint {
			t.Errorf("Join(%v) = %s, want %s", c.d, got, c.joint)
		}
	}
	if splits := splitsOf(t, Buneman, metric(4, 1, 2, 1, 1, 2, 1)); len(splits) > 0 {
		t.Errorf("Buneman of a square = %v", splits)
	}
}

// wantLengths returns the splits of a length above 0, which is half of the least value for two bits of the set and two others.
func wantLengths(d [][]int, value func(first, second, third int) int) []api.Split {
	var splits []api.Split
	for _, list := range allSets(len(d)) {
		var values []int
		for i := range d {
			for j := range d {
				for k := range d {
					for l := range d {
						if slices.Contains(list, i) && slices.Contains(list, j) && !slices.Contains(list, k) && !slices.Contains(list, l) {
							values = append(values, value(d[i][j]+d[k][l], d[i][k]+d[j][l], d[i][l]+d[j][k]))
						}
					}
				}
			}
		}
		if least := slices.Min(values); least > 0 {
			splits = append(splits, api.Split{Set: list, Length: numOf(big.NewRat(int64(least), 2))})
		}
	}
	return splits
}

func wantBuneman(d [][]int) []api.Split {
	return wantLengths(d, func(first, second, third int) int { return min(second, third) - first })
}

func wantIsolated(d [][]int) []api.Split {
	return wantLengths(d, func(first, second, third int) int { return max(first, second, third) - first })
}

func wantDistances(t *testing.T, n int, splits []api.Split) [][]api.Num {
	t.Helper()
	far := make([][]api.Num, n)
	for i := range n {
		for j := range n {
			sum := new(big.Rat)
			for _, s := range splits {
				if parts(s.Set, i, j) == 1 {
					sum.Add(sum, ratOf(t, s.Length))
				}
			}
			far[i] = append(far[i], numOf(sum))
		}
	}
	return far
}

// checkSplits compares Buneman, Isolated and Tree with what the document says of them, and checks K1, K2 and K7.
func checkSplits(t *testing.T, d [][]int) {
	t.Helper()
	n := len(d)
	buneman, isolated := splitsOf(t, Buneman, d), splitsOf(t, Isolated, d)
	if want := wantBuneman(d); !equalSplits(buneman, want) {
		t.Fatalf("Buneman(%v) = %v, want %v", d, buneman, want)
	}
	if want := wantIsolated(d); !equalSplits(isolated, want) {
		t.Fatalf("Isolated(%v) = %v, want %v", d, isolated, want)
	}
	tree, e := Tree(d)
	switch fits := firstOf(t, Fits, d) == nil; {
	case !fits && (e != api.ErrNone || len(tree) > 0), fits && (e != api.OK || !equalSplits(tree, buneman)):
		t.Fatalf("Tree(%v) = %v, %d", d, tree, e)
	case fits && fmt.Sprint(distancesOf(t, n, tree)) != fmt.Sprint(d):
		t.Fatalf("%v are not the distances of %v", d, tree)
	case n >= 2 && len(tree) > 2*n-3, len(isolated) > n*(n-1)/2:
		t.Fatalf("%v have so many splits: %v, %v", d, tree, isolated)
	}
	if !areAllCompatible(t, n, buneman) {
		t.Fatalf("Buneman(%v) = %v", d, buneman)
	}
	for _, s := range buneman {
		if lengthOf(t, isolated, s.Set).Cmp(ratOf(t, s.Length)) < 0 {
			t.Fatalf("%v: Isolated %v, Buneman %v", d, isolated, buneman)
		}
	}
	for i, row := range wantDistances(t, n, isolated) {
		for j, far := range row {
			if ratOf(t, far).Cmp(big.NewRat(int64(d[i][j]), 1)) > 0 {
				t.Fatalf("%v: Isolated %v", d, isolated)
			}
		}
	}
}

// checkTree: P2, K1: the splits of a tree are found again.
func checkTree(t *testing.T, d [][]int, splits []api.Split) {
	t.Helper()
	if tree := splitsOf(t, Tree, d); !equalSplits(tree, splits) {
		t.Fatalf("Tree(%v) = %v, want %v", d, tree, splits)
	}
	if isolated := splitsOf(t, Isolated, d); !equalSplits(isolated, splits) {
		t.Fatalf("Isolated(%v) = %v, want %v", d, isolated, splits)
	}
}

func TestAllSplits(t *testing.T) {
	for i, most := range []int{0, 5, 5, 3, 1} {
		for d := range allMetrics(i+1, most) {
			checkSplits(t, d)
		}
	}
}

func TestSomeSplits(t *testing.T) {
	r := rand.New(rand.NewSource(2))
	for range 300 {
		n := r.Intn(api.MaxKin) + 1
		checkSplits(t, someMetric(r, n, 1+r.Intn(40)))
		checkSplits(t, someLevels(r, n, r.Intn(20)))
		d, splits := someTree(r, n, r.Intn(20))
		checkSplits(t, d)
		checkTree(t, d, splits)
	}
}

// TestManySplits: as many isolated splits as there may be, with distances on a circle; MaxKin bits at distances up to MaxUnlike.
func TestManySplits(t *testing.T) {
	n := api.MaxKin
	circle := changed(square(n), func(i, j, _ int) int {
		return (n - max(i-j, j-i)) * max(i-j, j-i) * 625
	})
	checkSplits(t, circle)
	if isolated := splitsOf(t, Isolated, circle); len(isolated) != n*(n-1)/2 {
		t.Errorf("%d splits: %v", len(isolated), isolated)
	}
	far := changed(square(n), func(int, int, int) int { return api.MaxUnlike })
	tree := splitsOf(t, Tree, far)
	if len(tree) != n || tree[0].Length != "5000" || !slices.Equal(tree[n-1].Set, []int{1, 2, 3, 4, 5, 6, 7}) {
		t.Errorf("Tree = %v", tree)
	}
}

// TestMoved: K5.
func TestMoved(t *testing.T) {
	r := rand.New(rand.NewSource(3))
	for range 300 {
		n := r.Intn(api.MaxKin-1) + 2
		d := someMetric(r, n, 1+r.Intn(40))
		at, more := r.Intn(n), r.Intn(50)
		moved := changed(d, func(i, j, far int) int {
			if i == at || j == at {
				return far + more
			}
			return far
		})
		before, after := splitsOf(t, Buneman, d), splitsOf(t, Buneman, moved)
		for _, list := range allSets(n) {
			want := lengthOf(t, before, list)
			if len(list) == 1 && list[0] == at || at == 0 && len(list) == n-1 {
				want = new(big.Rat).Add(want, big.NewRat(int64(more), 1))
			}
			if got := lengthOf(t, after, list); got.Cmp(want) != 0 {
				t.Fatalf("%v with %d more at %d: the length of %v is %v, want %v", d, more, at, list, got, want)
			}
		}
	}
}

// TestScaled: K6.
func TestScaled(t *testing.T) {
	r := rand.New(rand.NewSource(4))
	for range 200 {
		n := r.Intn(api.MaxKin) + 1
		d := someMetric(r, n, 1+r.Intn(api.MaxUnlike/2))
		if r.Intn(3) == 0 {
			d, _ = someTree(r, n, 100)
		}
		twice := changed(d, func(_, _, far int) int { return 2 * far })
		for _, of := range []func([][]int) ([]api.Split, api.Errno){Tree, Buneman, Isolated, Join} {
			a, e := of(d)
			b, f := of(twice)
			for i, s := range a {
				a[i].Length = numOf(new(big.Rat).Mul(ratOf(t, s.Length), big.NewRat(2, 1)))
			}
			if e != f || !equalSplits(a, b) {
				t.Fatalf("%v: %v, %d; twice: %v, %d", d, a, e, b, f)
			}
		}
	}
}

// someSplits returns random splits of n bits, with lengths of up to so many digits, in any order, some of them several times.
func someSplits(r *rand.Rand, n, count, digits int) []api.Split {
	sets := allSets(n)
	var splits []api.Split
	for range count {
		top, bottom := r.Int63n(tenTo(r.Intn(digits)+1)), r.Int63n(tenTo(r.Intn(digits)+1)-1)+1
		length := numOf(big.NewRat(top, bottom))
		splits = append(splits, api.Split{Set: slices.Clone(sets[r.Intn(len(sets))]), Length: length})
	}
	return splits
}

func tenTo(digits int) int64 {
	power := int64(1)
	for range digits {
		power *= 10
	}
	return power
}

func TestDistances(t *testing.T) {
	for _, c := range []struct {
		n      int
		splits []api.Split
		want   string
	}{
		{1, nil, "[[0]]"},
		{3, nil, "[[0 0 0] [0 0 0] [0 0 0]]"},
		{2, []api.Split{{Set: []int{1}, Length: "5"}}, "[[0 5] [5 0]]"},
		{2, []api.Split{{Set: []int{1}, Length: "0"}}, "[[0 0] [0 0]]"},
		{2, []api.Split{{Set: []int{1}, Length: "1/2"}, {Set: []int{1}, Length: "1/3"}}, "[[0 5/6] [5/6 0]]"}, // the same set twice
		{3, []api.Split{{Set: []int{1, 2}, Length: "1"}, {Set: []int{2}, Length: "3"}, {Set: []int{1}, Length: "2"}}, "[[0 3 4] [3 0 5] [4 5 0]]"},
		{3, []api.Split{{Set: []int{2}, Length: "1/2"}, {Set: []int{1, 2}, Length: "3/2"}}, "[[0 3/2 2] [3/2 0 1/2] [2 1/2 0]]"},
		{4, []api.Split{{Set: []int{1, 2}, Length: "1"}, {Set: []int{2, 3}, Length: "1"}}, "[[0 1 2 1] [1 0 1 2] [2 1 0 1] [1 2 1 0]]"},
	} {
		if got := fmt.Sprint(distancesOf(t, c.n, c.splits)); got != c.want {
			t.Errorf("Distances(%d, %v) = %s, want %s", c.n, c.splits, got, c.want)
		}
	}
}

func TestSomeDistances(t *testing.T) {
	r := rand.New(rand.NewSource(5))
	for i := range 300 {
		n := r.Intn(api.MaxKin-1) + 2
		splits := someSplits(r, n, r.Intn(20), 12)
		if i == 0 {
			n, splits = api.MaxKin, someSplits(r, api.MaxKin, 200, 12)
		}
		if got, want := distancesOf(t, n, splits), wantDistances(t, n, splits); fmt.Sprint(got) != fmt.Sprint(want) {
			t.Fatalf("Distances(%d, %v) = %s, want %s", n, splits, got, want)
		}
	}
}

// TestLongDistances: 200 different denominators of 12 digits.
func TestLongDistances(t *testing.T) {
	var splits []api.Split
	sets := allSets(api.MaxKin)
	for i := range 200 {
		bottom := int64(999999999999 - i)
		splits = append(splits, api.Split{Set: sets[i%len(sets)], Length: numOf(big.NewRat(bottom-1, bottom))})
	}
	far := distancesOf(t, api.MaxKin, splits)
	if want := wantDistances(t, api.MaxKin, splits); fmt.Sprint(far) != fmt.Sprint(want) {
		t.Error("the distances are wrong")
	}
	if digits := len(far[0][1]); digits < 1000 || digits > 2*api.MaxDigits {
		t.Errorf("%d digits", digits)
	}
}

func TestCompatible(t *testing.T) {
	for _, c := range []struct {
		n    int
		sets [][]int
		want bool
	}{
		{1, nil, true},
		{2, [][]int{{1}}, true},
		{3, [][]int{{1}, {2}, {1, 2}}, true},
		{3, [][]int{{1, 2}, {1, 2}, {1, 2}}, true}, // the same set
		{4, [][]int{{1, 2}, {2, 3}}, false},
		{4, [][]int{{2, 3}, {1, 2}}, false},
		{4, [][]int{{1, 3}, {1, 2, 3}}, true},
		{4, [][]int{{1, 2, 3}, {1, 3}}, true},
		{5, [][]int{{1, 3}, {2, 4}}, true},
		{5, [][]int{{1, 2, 3}, {3, 4}}, false},
		{5, [][]int{{1, 2, 3, 4}, {1, 2}, {3, 4}, {1}, {2}, {3}, {4}}, true},
		{5, [][]int{{1}, {1, 2}, {2}, {3}, {4}, {3, 4}, {1, 4}}, false}, // only the last one and one in the middle
		{8, [][]int{{1, 2, 3, 4, 5, 6, 7}, {1, 2, 3, 4, 5, 6}, {2, 3, 4, 5, 6}, {4, 5}, {2, 6}}, true},
		{8, [][]int{{7}, {1, 7}, {2, 7}}, false},
	} {
		var splits []api.Split
		for i, list := range c.sets {
			splits = append(splits, api.Split{Set: list, Length: []api.Num{"0", "1", "2/3"}[i%3]})
		}
		if got := areAllCompatible(t, c.n, splits); got != c.want {
			t.Errorf("Compatible(%d, %v) = %t", c.n, c.sets, got)
		}
	}
}

// fitTogether reports whether no bit, or all bits, of one of two sets are in the other one.
func fitTogether(a, b []int) bool {
	common := 0
	for _, bit := range a {
		if slices.Contains(b, bit) {
			common++
		}
	}
	return common == 0 || common == len(a) || common == len(b)
}

func TestSomeCompatible(t *testing.T) {
	r := rand.New(rand.NewSource(6))
	for i := range 2000 {
		n := r.Intn(api.MaxKin-1) + 2
		splits := someSplits(r, n, r.Intn(5), 2)
		if i%2 == 0 {
			_, splits = someTree(r, n, 3)
			splits = append(splits, someSplits(r, n, 1, 2)...)
		}
		want := true
		for _, a := range splits {
			for _, b := range splits {
				want = want && fitTogether(a.Set, b.Set)
			}
		}
		if got := areAllCompatible(t, n, splits); got != want {
			t.Fatalf("Compatible(%d, %v) = %t", n, splits, got)
		}
	}
}

// TestListing: splits are listed by the numbers of bits in their sets, then lexicographically.
func TestListing(t *testing.T) {
	var texts []string
	for _, s := range splitsOf(t, Isolated, changed(square(5), func(i, j, _ int) int { return (5 - max(i-j, j-i)) * max(i-j, j-i) })) {
		texts = append(texts, strings.Trim(fmt.Sprint(s.Set), "[]"))
	}
	if got, want := strings.Join(texts, ", "), "1, 2, 3, 4, 1 2, 2 3, 3 4, 1 2 3, 2 3 4, 1 2 3 4"; got != want {
		t.Errorf("%s, want %s", got, want)
	}
}
