package stitch

import (
	"math/big"
	"math/bits"
	"math/rand"
	"slices"
	"testing"

	"pommel/api"
)

func (c cloth) cliquesOf(t *testing.T) []int {
	t.Helper()
	cliques, e := Cliques(c.k, c.pairs)
	check(t, c, e)
	return cliques
}

// countOf reads a Count without the program's own reader.
func (c cloth) countOf(t *testing.T, n int) *big.Int {
	t.Helper()
	text, e := Count(c.k, c.pairs, n)
	count, ok := new(big.Int).SetString(string(text), 10)
	if e != api.OK || !ok || count.String() != string(text) {
		t.Fatalf("%v: Count of %d = %q, %d", c, n, text, e)
	}
	return count
}

func TestCliques(t *testing.T) {
	cases := []struct {
		c    cloth
		want []int
	}{
		{cloth{k: 1}, []int{1, 1}},
		{cloth{k: 6}, []int{1, 6}},
		{cloth{2, allPairs(2)}, []int{1, 2, 1}},
		{cloth{2, slices.Repeat(allPairs(2), 30)}, []int{1, 2, 1}},
		{cloth{6, allPairs(6)}, []int{1, 6, 15, 20, 15, 6, 1}},
		{cloth{6, allPairs(6)[1:]}, []int{1, 6, 14, 16, 9, 2}},
		{cloth{3, []api.Pair{{A: 1, B: 0}, {A: 0, B: 1}, {A: 1, B: 2}}}, []int{1, 3, 2}},
		{cloth{4, []api.Pair{{A: 0, B: 1}, {A: 1, B: 2}, {A: 2, B: 3}, {A: 3, B: 0}}}, []int{1, 4, 4}},
	}
	for _, c := range cases {
		if cliques := c.c.cliquesOf(t); !slices.Equal(cliques, c.want) {
			t.Errorf("%v: Cliques = %v, want %v", c.c, cliques, c.want)
		}
	}
}

// TestAllCliques counts the sets of letters that are one step, of all threads of up to 4 letters, and of random ones.
func TestAllCliques(t *testing.T) {
	cloths := allCloths(4)
	r := rand.New(rand.NewSource(7))
	for range 500 {
		cloths = append(cloths, someCloth(r, api.MaxLetters))
	}
	for _, c := range cloths {
		var want []int
		for set := range 1 << c.k {
			var step []byte
			for a := range byte(c.k) {
				if set>>a&1 == 1 {
					step = append(step, 'a'+a)
				}
			}
			if size := bits.OnesCount(uint(set)); size == 0 || c.inSteps([]string{string(step)}) {
				want = append(want, make([]int, max(0, size+1-len(want)))...)
				want[size]++
			}
		}
		if cliques := c.cliquesOf(t); !slices.Equal(cliques, want) {
			t.Fatalf("%v: Cliques = %v, want %v", c, cliques, want)
		}
	}
}

// TestCount counts the seams that are the least of their equal ones.
func TestCount(t *testing.T) {
	for _, c := range allCloths(4) {
		counts := make([]int64, 6)
		for _, seam := range c.allSeams(len(counts) - 1) {
			if c.class(seam)[0] == seam {
				counts[len(seam)]++
			}
		}
		for n, want := range counts {
			if count := c.countOf(t, n); count.Cmp(big.NewInt(want)) != 0 {
				t.Fatalf("%v: Count of %d = %s, want %d", c, n, count, want)
			}
		}
	}
}

// TestCartierFoata: S3, for all lengths.
func TestCartierFoata(t *testing.T) {
	r := rand.New(rand.NewSource(8))
	for range 60 {
		c := someCloth(r, api.MaxLetters)
		cliques := c.cliquesOf(t)
		counts := []*big.Int{c.countOf(t, 0)}
		if counts[0].Cmp(big.NewInt(1)) != 0 {
			t.Fatalf("%v: Count of 0 = %s", c, counts[0])
		}
		for n := 1; n <= api.MaxSeam; n++ {
			counts = append(counts, c.countOf(t, n))
			sum := new(big.Int)
			for i := 0; i < len(cliques) && i <= n; i++ {
				term := new(big.Int).Mul(big.NewInt(int64(cliques[i])), counts[n-i])
				if i%2 == 1 {
					term.Neg(term)
				}
				sum.Add(sum, term)
			}
			if sum.Sign() != 0 {
				t.Fatalf("%v: the sum for %d is %s", c, n, sum)
			}
		}
	}
}

// TestCountKnown: S8, and what is known of threads that all commute; for 6 letters and MaxSeam no 64 bits hold the count.
func TestCountKnown(t *testing.T) {
	for k := 1; k <= api.MaxLetters; k++ {
		for n := range api.MaxSeam + 1 {
			free, full := cloth{k: k}, cloth{k, allPairs(k)}
			if count := free.countOf(t, n); count.Cmp(new(big.Int).Exp(big.NewInt(int64(k)), big.NewInt(int64(n)), nil)) != 0 {
				t.Errorf("%v: Count of %d = %s", free, n, count)
			}
			if count := full.countOf(t, n); count.Cmp(new(big.Int).Binomial(int64(n+k-1), int64(n))) != 0 {
				t.Errorf("%v: Count of %d = %s", full, n, count)
			}
		}
	}
	if count, e := Count(6, nil, api.MaxSeam); e != api.OK || count != "48873677980689257489322752273774603865660850176" {
		t.Errorf("Count = %s, %d", count, e)
	}
}
