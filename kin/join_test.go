package kin

import (
	"fmt"
	"math/big"
	"math/rand"
	"slices"
	"testing"

	"pommel/api"
)

// family is the clusters that are left when neighbours are joined: their bits and distances, by the least bits of the clusters.
type family struct {
	n      int
	left   []int
	bits   map[int][]int
	apart  map[[2]int]*big.Rat
	splits map[string]*big.Rat // the lengths of the branches, by the sets as text
}

func newFamily(d [][]int) *family {
	f := &family{n: len(d), bits: map[int][]int{}, apart: map[[2]int]*big.Rat{}, splits: map[string]*big.Rat{}}
	for i, row := range d {
		f.left = append(f.left, i)
		f.bits[i] = []int{i}
		for j, far := range row {
			f.apart[[2]int{i, j}] = big.NewRat(int64(far), 1)
		}
	}
	return f
}

// joinedByHand computes what Join returns as the document says it.
func joinedByHand(d [][]int) []api.Split {
	f := newFamily(d)
	for len(f.left) > 3 {
		f.join(f.nearest())
	}
	switch l := f.left; len(l) {
	case 2:
		f.branch(1, f.apart[[2]int{0, 1}])
	case 3:
		for _, turn := range [][3]int{{l[0], l[1], l[2]}, {l[1], l[0], l[2]}, {l[2], l[0], l[1]}} {
			f.branch(turn[0], f.between(turn[0], turn[1], turn[2]))
		}
	}
	var splits []api.Split
	for _, list := range allSets(f.n) {
		if length, ok := f.splits[fmt.Sprint(list)]; ok {
			splits = append(splits, api.Split{Set: list, Length: numOf(length)})
		}
	}
	return splits
}

// between returns half of the distances of two clusters from a, less their own distance.
func (f *family) between(a, b, c int) *big.Rat {
	sum := new(big.Rat).Add(f.apart[[2]int{a, b}], f.apart[[2]int{a, c}])
	return sum.Sub(sum, f.apart[[2]int{b, c}]).Quo(sum, big.NewRat(2, 1))
}

func (f *family) sum(a int) *big.Rat {
	sum := new(big.Rat)
	for _, b := range f.left {
		sum.Add(sum, f.apart[[2]int{a, b}])
	}
	return sum
}

func (f *family) nearest() (int, int) {
	var first, second int
	var least *big.Rat
	for i, b := range f.left {
		for _, a := range f.left[:i] {
			q := new(big.Rat).Mul(big.NewRat(int64(len(f.left)-2), 1), f.apart[[2]int{a, b}])
			q.Sub(q, f.sum(a)).Sub(q, f.sum(b))
			if least == nil || q.Cmp(least) < 0 || q.Cmp(least) == 0 && (a < first || a == first && b < second) {
				first, second, least = a, b, q
			}
		}
	}
	return first, second
}

func (f *family) join(a, b int) {
	far := f.apart[[2]int{a, b}]
	one := new(big.Rat).Sub(f.sum(a), f.sum(b))
	one.Quo(one, big.NewRat(int64(2*(len(f.left)-2)), 1))
	one.Add(one, new(big.Rat).Quo(far, big.NewRat(2, 1)))
	f.branch(a, one)
	f.branch(b, new(big.Rat).Sub(far, one))
	for _, c := range f.left {
		if c != a && c != b {
			far := f.between(c, a, b)
			f.apart[[2]int{a, c}], f.apart[[2]int{c, a}] = far, far
		}
	}
	f.bits[a] = append(f.bits[a], f.bits[b]...)
	f.left = slices.DeleteFunc(f.left, func(c int) bool { return c == b })
}

// branch keeps the branch of a cluster: of its bits and the other ones the list without the bit 0.
func (f *family) branch(a int, length *big.Rat) {
	var list []int
	for bit := 1; bit < f.n; bit++ {
		if slices.Contains(f.bits[a], bit) != slices.Contains(f.bits[a], 0) {
			list = append(list, bit)
		}
	}
	f.splits[fmt.Sprint(list)] = length
}

// checkJoin compares Join with the document, and checks K3 and K7.
func checkJoin(t *testing.T, d [][]int) []api.Split {
	t.Helper()
	splits := splitsOf(t, Join, d)
	if want := joinedByHand(d); !equalSplits(splits, want) {
		t.Fatalf("Join(%v) = %v, want %v", d, splits, want)
	}
	if len(d) >= 3 && len(splits) != 2*len(d)-3 {
		t.Fatalf("Join(%v) = %v", d, splits)
	}
	if firstOf(t, Fits, d) == nil {
		if tree := splitsOf(t, Tree, d); !equalSplits(longOnes(t, splits), tree) || !areAllCompatible(t, len(d), longOnes(t, splits)) {
			t.Fatalf("%v: Join %v, Tree %v", d, splits, tree)
		}
		for _, s := range splits {
			if ratOf(t, s.Length).Sign() < 0 {
				t.Fatalf("%v: Join %v", d, splits)
			}
		}
	}
	return splits
}

func TestAllJoins(t *testing.T) {
	for i, most := range []int{0, 5, 5, 3, 1} {
		for d := range allMetrics(i+1, most) {
			checkJoin(t, d)
		}
	}
}

func TestSomeJoins(t *testing.T) {
	r := rand.New(rand.NewSource(7))
	for range 1000 {
		n := r.Intn(api.MaxKin) + 1
		checkJoin(t, someMetric(r, n, 1+r.Intn(40)))
		checkJoin(t, someLevels(r, n, r.Intn(4)))
		d, _ := someTree(r, n, r.Intn(4))
		checkJoin(t, d)
	}
}

// overshot returns distances for which a branch of a length below 0 is made, which is rare.
func overshot() [][]int {
	return metric(8, 25, 45, 47, 48, 24, 25, 44, 28, 24, 24, 8, 47, 29, 44, 45, 29, 21, 25, 48, 24, 24, 44, 25, 24, 44, 48, 29, 20)
}

// TestBelowZero: lengths below 0, and distances near those that have them.
func TestBelowZero(t *testing.T) {
	r := rand.New(rand.NewSource(9))
	below := 0
	for range 3000 {
		to, d := r.Perm(api.MaxKin), overshot()
		d = changed(d, func(i, j, _ int) int { return 4 * d[to[i]][to[j]] })
		i, j := r.Intn(len(d)), r.Intn(len(d))
		if i != j {
			d[i][j] += r.Intn(9) - 4
			d[j][i] = d[i][j]
		}
		if !isMetric(d) {
			continue
		}
		if splits := checkJoin(t, d); slices.ContainsFunc(splits, func(s api.Split) bool { return s.Length[0] == '-' }) {
			below++
		}
	}
	if below < 100 {
		t.Errorf("only %d have a length below 0", below)
	}
}

// TestFarJoins: MaxKin bits at the greatest distances: the parts of a length are many.
func TestFarJoins(t *testing.T) {
	r := rand.New(rand.NewSource(8))
	longest := 0
	for range 300 {
		for _, s := range checkJoin(t, someMetric(r, api.MaxKin, api.MaxUnlike)) {
			longest = max(longest, int(ratOf(t, s.Length).Denom().Int64()))
		}
	}
	if longest < 64 {
		t.Errorf("no denominator above %d", longest)
	}
}

func TestJoinKnown(t *testing.T) {
	for _, c := range []struct {
		d    [][]int
		want string
	}{
		{metric(4, 0, 0, 0, 0, 0, 0), "[{[1] 0} {[2] 0} {[3] 0} {[2 3] 0} {[1 2 3] 0}]"},
		{metric(5, 2, 2, 2, 2, 2, 2, 2, 2, 2, 2), "[{[1] 1} {[2] 1} {[3] 1} {[4] 1} {[3 4] 0} {[2 3 4] 0} {[1 2 3 4] 1}]"}, // the pairs of equal Q in order
		{metric(5, 3, 4, 5, 5, 5, 6, 6, 7, 7, 4), "[{[1] 2} {[2] 3} {[3] 2} {[4] 2} {[3 4] 2} {[2 3 4] 0} {[1 2 3 4] 1}]"},
		{overshot(), "[{[1] 23/6} {[2] 51/4} {[3] 1283/64} {[4] 931/48} {[5] 25/6} {[6] 163/32} {[7] 49/4} {[1 5] -3/64} {[2 7] 93/32} " +
			"{[1 3 5] 209/64} {[2 6 7] 221/48} {[2 4 6 7] 241/64} {[1 2 3 4 5 6 7] 1311/64}]"},
	} {
		if got := fmt.Sprint(splitsOf(t, Join, c.d)); got != c.want {
			t.Errorf("Join(%v) = %s, want %s", c.d, got, c.want)
		}
	}
}
