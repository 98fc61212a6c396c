package stitch

import (
	"math"
	"math/rand"
	"slices"
	"strings"
	"testing"

	"pommel/api"
)

// checkOne checks the error of all functions of one seam, and that their other results are zero values (R3).
func checkOne(t *testing.T, c cloth, s string, want api.Errno) {
	t.Helper()
	if steps, e := Steps(c.k, c.pairs, s); e != want || len(steps) != 0 {
		t.Errorf("%v: Steps(%q) = %q, %d, want %d", c, s, steps, e, want)
	}
	if least, e := Least(c.k, c.pairs, s); e != want || least != "" {
		t.Errorf("%v: Least(%q) = %q, %d, want %d", c, s, least, e, want)
	}
	if ways, e := Ways(c.k, c.pairs, s); e != want || ways != 0 {
		t.Errorf("%v: Ways(%q) = %d, %d, want %d", c, s, ways, e, want)
	}
	if parts, e := Parts(c.k, c.pairs, s); e != want || len(parts) != 0 {
		t.Errorf("%v: Parts(%q) = %q, %d, want %d", c, s, parts, e, want)
	}
	if heights, e := Heights(c.k, c.pairs, s); e != want || len(heights) != 0 {
		t.Errorf("%v: Heights(%q) = %v, %d, want %d", c, s, heights, e, want)
	}
}

// checkTwo checks the error of all functions of two seams, in both orders, and that their other results are zero values.
func checkTwo(t *testing.T, c cloth, s, u string, want api.Errno) {
	t.Helper()
	for range 2 {
		if equal, e := Equal(c.k, c.pairs, s, u); e != want || equal {
			t.Errorf("%v: Equal(%q, %q) = %t, %d, want %d", c, s, u, equal, e, want)
		}
		if rest, e := Rest(c.k, c.pairs, s, u); e != want || rest != "" {
			t.Errorf("%v: Rest(%q, %q) = %q, %d, want %d", c, s, u, rest, e, want)
		}
		if meet, e := Meet(c.k, c.pairs, s, u); e != want || meet != "" {
			t.Errorf("%v: Meet(%q, %q) = %q, %d, want %d", c, s, u, meet, e, want)
		}
		if join, e := Join(c.k, c.pairs, s, u); e != want || join != "" {
			t.Errorf("%v: Join(%q, %q) = %q, %d, want %d", c, s, u, join, e, want)
		}
		s, u = u, s
	}
}

// checkCounts checks the error of the functions of threads alone, and that their other results are zero values.
func checkCounts(t *testing.T, c cloth, n int, want api.Errno) {
	t.Helper()
	if count, e := Count(c.k, c.pairs, n); e != want || count != "" {
		t.Errorf("%v: Count of %d = %q, %d, want %d", c, n, count, e, want)
	}
}

// badCloths returns threads that are not valid.
func badCloths() []cloth {
	long := slices.Repeat(allPairs(6), 3)
	cloths := []cloth{
		{k: 0}, {k: -1}, {k: api.MaxLetters + 1}, {k: math.MinInt}, {k: math.MaxInt},
		{1, allPairs(2)}, {5, allPairs(6)}, {7, allPairs(6)}, {0, allPairs(2)},
		{6, long[:31]}, {6, long}, {1, make([]api.Pair, 31)}, {2, slices.Repeat(allPairs(2), 31)},
	}
	for _, p := range []api.Pair{
		{A: 0, B: 0}, {A: 2, B: 2}, {A: 0, B: 3}, {A: 3, B: 0}, {A: 3, B: 3}, {A: -1, B: 0}, {A: 0, B: -1}, {A: -1, B: -1},
		{A: math.MaxInt, B: 0}, {A: 0, B: math.MaxInt}, {A: math.MinInt, B: 1}, {A: 1, B: math.MinInt}, {A: math.MinInt, B: math.MaxInt},
	} {
		cloths = append(cloths, cloth{3, []api.Pair{p}}, cloth{3, append(allPairs(3), p)}, cloth{3, append([]api.Pair{p}, allPairs(3)...)})
	}
	return cloths
}

// badSeams returns seams of k letters that have another byte, but are not too long.
func badSeams(k int) []string {
	after := string([]byte{'a' + byte(k)})
	return []string{
		after, "a" + after, after + "a", "`", "z", "{", "A", " ", "-", "\n", "\x00", "\xff", "\x80", "\xe1", "a\x00", "aa ", "é", "a,b", "aA",
		strings.Repeat("a", api.MaxSpread-1) + after, after + strings.Repeat("a", api.MaxSpread-1),
	}
}

func TestThreadErrors(t *testing.T) {
	long := strings.Repeat("a", api.MaxStitch+1)
	for _, c := range badCloths() {
		for _, seam := range []string{"", "a", "?", long, long + "?"} { // R2: ErrArg first
			checkOne(t, c, seam, api.ErrArg)
			checkTwo(t, c, seam, "a", api.ErrArg)
			checkTwo(t, c, seam, "?", api.ErrArg)
		}
		if cliques, e := Cliques(c.k, c.pairs); e != api.ErrArg || len(cliques) != 0 {
			t.Errorf("%v: Cliques = %v, %d", c, cliques, e)
		}
		for _, n := range []int{math.MinInt, -1, 0, 1, api.MaxSeam, api.MaxSeam + 1, math.MaxInt} {
			checkCounts(t, c, n, api.ErrArg)
		}
	}
	for k := 1; k <= api.MaxLetters; k++ {
		for _, n := range []int{math.MinInt, -61, -1, api.MaxSeam + 1, math.MaxInt} {
			checkCounts(t, cloth{k: k}, n, api.ErrArg)
			checkCounts(t, cloth{k, allPairs(k)}, n, api.ErrArg)
		}
	}
}

func TestSeamErrors(t *testing.T) {
	for k := 1; k <= api.MaxLetters; k++ {
		for _, c := range []cloth{{k: k}, {k, allPairs(k)}} {
			for _, bad := range badSeams(k) {
				checkOne(t, c, bad, api.ErrForm)
				for _, other := range []string{"", "a", bad, strings.Repeat("a", api.MaxStitch)} {
					checkTwo(t, c, bad, other, api.ErrForm)
				}
				// R2: ErrLong first, also if it is the other seam that has the byte that is no letter.
				long := strings.Repeat("a", api.MaxStitch+1)
				checkTwo(t, c, bad, long, api.ErrLong)
				checkTwo(t, c, bad, strings.Repeat(bad, api.MaxStitch+1), api.ErrLong)
				checkOne(t, c, strings.Repeat(bad, api.MaxStitch+1), api.ErrLong)
			}
			for _, n := range []int{api.MaxStitch + 1, api.MaxStitch + 2, 1000, 1 << 20} {
				long := strings.Repeat("a", n)
				checkOne(t, c, long, api.ErrLong)
				checkTwo(t, c, long, "a", api.ErrLong)
				checkTwo(t, c, long, "", api.ErrLong)
				checkTwo(t, c, long, long, api.ErrLong)
			}
			full := strings.Repeat("a", api.MaxStitch)
			c.stepsOf(t, full)
			c.leastOf(t, full)
			c.partsOf(t, full)
			checkHeights(t, c, full)
			if !c.equal(t, full, full) || c.meetOf(t, full, full) != full || c.restOf(t, full, full) != "" {
				t.Errorf("%v: seams of MaxStitch letters", c)
			}
		}
	}
}

// TestWaysErrors: the seams of Ways have their own limit.
func TestWaysErrors(t *testing.T) {
	c := cloth{2, allPairs(2)}
	cases := []struct {
		seam string
		want int
		e    api.Errno
	}{
		{strings.Repeat("a", api.MaxSpread), 1, api.OK},
		{strings.Repeat("a", api.MaxSpread+1), 0, api.ErrLong},
		{strings.Repeat("a", api.MaxStitch), 0, api.ErrLong},
		{strings.Repeat("a", api.MaxSpread) + "?", 0, api.ErrLong}, // R2: before ErrForm
		{strings.Repeat("a", api.MaxSpread-1) + "?", 0, api.ErrForm},
		{strings.Repeat("a", api.MaxSpread-1) + "c", 0, api.ErrForm},
	}
	for _, w := range cases {
		if ways, e := Ways(c.k, c.pairs, w.seam); e != w.e || ways != w.want {
			t.Errorf("Ways(%q) = %d, %d, want %d, %d", w.seam, ways, e, w.want, w.e)
		}
	}
}

// TestPairs: exactly 30 pairs; the order of a pair, and how often it is there, do not matter.
func TestPairs(t *testing.T) {
	r := rand.New(rand.NewSource(9))
	for range 500 {
		c := someCloth(r, api.MaxLetters)
		once := cloth{k: c.k}
		for _, p := range allPairs(c.k) {
			if c.commute('a'+byte(p.A), 'a'+byte(p.B)) {
				once.pairs = append(once.pairs, p)
			}
		}
		if len(c.pairs) > 0 {
			for len(c.pairs) < 30 {
				c.pairs = append(c.pairs, c.pairs[r.Intn(len(c.pairs))])
			}
		}
		s, u := c.someSeam(r, api.MaxStitch), c.someSeam(r, 6)
		join, e := Join(c.k, c.pairs, s, u)
		other, f := Join(once.k, once.pairs, s, u)
		if c.leastOf(t, s) != once.leastOf(t, s) || !slices.Equal(c.stepsOf(t, s), once.stepsOf(t, s)) || c.waysOf(t, u) != once.waysOf(t, u) ||
			c.meetOf(t, s, u) != once.meetOf(t, s, u) || join != other || e != f || c.countOf(t, 7).Cmp(once.countOf(t, 7)) != 0 ||
			!slices.Equal(c.cliquesOf(t), once.cliquesOf(t)) || !slices.Equal(c.partsOf(t, s), once.partsOf(t, s)) {
			t.Fatalf("%v is not %v", c, once)
		}
	}
	both := cloth{6, allPairs(6)}
	for _, p := range allPairs(6) {
		both.pairs = append(both.pairs, api.Pair{A: p.B, B: p.A})
	}
	if steps := both.stepsOf(t, "fedcba"); len(both.pairs) != 30 || !slices.Equal(steps, []string{"abcdef"}) {
		t.Errorf("%d pairs: %q", len(both.pairs), steps)
	}
}

// results are the results of all functions, for any arguments.
type results struct {
	lists   [2][]string
	numbers [2][]int
	texts   [4]string
	errors  [11]api.Errno
	ways    int
	equal   bool
	count   api.Num
}

func allResults(c cloth, s, u string, n int) results {
	var x results
	e := &x.errors
	x.lists[0], e[0] = Steps(c.k, c.pairs, s)
	x.lists[1], e[1] = Parts(c.k, c.pairs, s)
	x.numbers[0], e[2] = Heights(c.k, c.pairs, s)
	x.numbers[1], e[3] = Cliques(c.k, c.pairs)
	x.texts[0], e[4] = Least(c.k, c.pairs, s)
	x.texts[1], e[5] = Rest(c.k, c.pairs, s, u)
	x.texts[2], e[6] = Meet(c.k, c.pairs, s, u)
	x.texts[3], e[7] = Join(c.k, c.pairs, s, u)
	x.ways, e[8] = Ways(c.k, c.pairs, s)
	x.equal, e[9] = Equal(c.k, c.pairs, s, u)
	x.count, e[10] = Count(c.k, c.pairs, n)
	return x
}

func (x results) same(y results) bool {
	for i := range x.lists {
		if !slices.Equal(x.lists[i], y.lists[i]) || !slices.Equal(x.numbers[i], y.numbers[i]) {
			return false
		}
	}
	return x.texts == y.texts && x.errors == y.errors && x.ways == y.ways && x.equal == y.equal && x.count == y.count
}

func (x results) cloned() results {
	for i := range x.lists {
		x.lists[i], x.numbers[i] = slices.Clone(x.lists[i]), slices.Clone(x.numbers[i])
	}
	return x
}

func (x results) spoil() {
	for i := range x.lists {
		clear(x.lists[i][:cap(x.lists[i])])
		clear(x.numbers[i][:cap(x.numbers[i])])
	}
}

// TestArguments: R1, R4, R5, R6 and P6, for arguments of which many are not valid.
func TestArguments(t *testing.T) {
	r := rand.New(rand.NewSource(10))
	bad := badCloths()
	for i := range 2000 {
		c := someCloth(r, api.MaxLetters)
		seams := badSeams(c.k)
		if i%3 == 0 {
			c = bad[r.Intn(len(bad))]
		}
		seams = append(seams, "", strings.Repeat("a", 41))
		for range 30 {
			seams = append(seams, cloth{k: 6}.someSeam(r, 42), cloth{k: max(1, min(6, c.k))}.someSeam(r, 20))
		}
		s, u := seams[r.Intn(len(seams))], seams[r.Intn(len(seams))]
		n := r.Intn(70) - 4
		pairs := slices.Clone(c.pairs)
		first := allResults(c, s, u, n)
		old := first.cloned()
		first.spoil()
		allResults(bad[r.Intn(len(bad))], u, s, n)
		if again := allResults(c, s, u, n); !again.same(old) || !slices.Equal(c.pairs, pairs) {
			t.Fatalf("%v: %q, %q, %d: results share memory or differ, or arguments are changed", c, s, u, n)
		}
		if len(c.pairs) == 0 && !allResults(cloth{c.k, []api.Pair{}}, s, u, n).same(allResults(cloth{c.k, nil}, s, u, n)) {
			t.Fatalf("%v: nil and empty lists of pairs", c)
		}
	}
}
