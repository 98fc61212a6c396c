package hide

import (
	"math"
	"math/big"
	"math/rand"
	"slices"
	"testing"

	"pommel/api"
)

// networkByHand finds the nodes of a small cut unit by unit: a unit of a horizontal line is an edge
// if the squares above and below it are different ones, and edges side by side are one node.
func networkByHand(squares []api.Square) (int, []api.Pair) {
	ordered := sorted(squares)
	width, height := extent(ordered)
	owner := func(x, y int) int {
		return slices.IndexFunc(ordered, func(s api.Square) bool {
			return s.X <= x && x < s.X+s.Size && s.Y <= y && y < s.Y+s.Size
		})
	}
	nodes := map[api.Pair]int{} // by the left end of a unit
	count := 0
	for y := range height + 1 {
		along := false
		for x := range width {
			edge := owner(x, y-1) != owner(x, y)
			if edge && !along {
				count++
			}
			if edge {
				nodes[api.Pair{A: x, B: y}] = count - 1
			}
			along = edge
		}
	}
	var wires []api.Pair
	for _, s := range ordered {
		wires = append(wires, api.Pair{A: nodes[api.Pair{A: s.X, B: s.Y}], B: nodes[api.Pair{A: s.X, B: s.Y + s.Size}]})
	}
	return count, wires
}

func TestNetwork(t *testing.T) {
	for _, squares := range someCuts(t, 11, 1500, api.MaxSquares) {
		if width, height := extent(squares); width*height > 3000 {
			continue
		}
		count, want := networkByHand(squares)
		if n, wires, e := Network(squares); e != api.OK || n != count || !slices.Equal(wires, want) {
			t.Fatalf("Network(%v) = %d, %v, %d, want %d, %v", squares, n, wires, e, count, want)
		}
	}
}

func TestNetworkKnown(t *testing.T) {
	cases := []struct {
		width int
		code  []int
		n     int
		wires []api.Pair
	}{
		{1, []int{1}, 2, []api.Pair{{A: 0, B: 1}}},
		{2, []int{1, 1}, 2, []api.Pair{{A: 0, B: 1}, {A: 0, B: 1}}},
		{1, []int{1, 1}, 3, []api.Pair{{A: 0, B: 1}, {A: 1, B: 2}}},
		// Four squares that meet in a point: the line through it is one node.
		{2, []int{1, 1, 1, 1}, 3, []api.Pair{{A: 0, B: 1}, {A: 0, B: 1}, {A: 1, B: 2}, {A: 1, B: 2}}},
		// Two lines of the same Y that do not touch are two nodes.
		{4, []int{1, 2, 1, 1, 1}, 4, []api.Pair{{A: 0, B: 1}, {A: 0, B: 3}, {A: 0, B: 2}, {A: 1, B: 3}, {A: 2, B: 3}}},
		{32, code32(), 6, []api.Pair{{A: 0, B: 2}, {A: 0, B: 1}, {A: 1, B: 2}, {A: 1, B: 3}, {A: 2, B: 5}, {A: 2, B: 4}, {A: 3, B: 4}, {A: 3, B: 5}, {A: 4, B: 5}}},
	}
	for _, c := range cases {
		if n, wires, e := Network(mustLay(t, c.width, c.code)); e != api.OK || n != c.n || !slices.Equal(wires, c.wires) {
			t.Errorf("Network of %v = %d, %v, %d", c.code, n, wires, e)
		}
	}
	column := turned(row(api.MaxSquares))
	if n, wires, e := Network(column); e != api.OK || n != api.MaxNodes || len(wires) != api.MaxWires || wires[23] != (api.Pair{A: 23, B: 24}) {
		t.Errorf("Network of a column = %d, %v, %d", n, wires, e)
	}
}

// TestCutNetworks: H2, H4 and H7.
func TestCutNetworks(t *testing.T) {
	for _, squares := range someCuts(t, 12, 1000, api.MaxSquares) {
		n, wires, e := Network(squares)
		currents, f := Currents(n, wires)
		resistance, g := Resistance(n, wires)
		if e != api.OK || f != api.OK || g != api.OK || len(currents) != len(squares) {
			t.Fatalf("%v: Network %d, Currents %v, %d, Resistance %d", squares, e, currents, f, g)
		}
		code, _ := Code(squares)
		common := 0
		for _, size := range code {
			common = gcd(common, size)
		}
		most := 0
		for i, size := range code {
			most = max(most, size)
			if whole(t, currents[i])*common != size {
				t.Fatalf("%v: currents %v", squares, currents)
			}
		}
		width, height, _ := Measure(squares)
		if rat(t, resistance).Cmp(big.NewRat(int64(height), int64(width))) != 0 {
			t.Fatalf("%v: resistance %s of a cut of %d, %d", squares, resistance, width, height)
		}
		other := turned(squares)
		if w, h, e := Measure(other); e != api.OK || w != height || h != width {
			t.Fatalf("%v turned: Measure = %d, %d, %d", squares, w, h, e)
		}
		m, others, _ := Network(other)
		reciprocal, e := Resistance(m, others)
		if e != api.OK || rat(t, reciprocal).Cmp(new(big.Rat).Inv(rat(t, resistance))) != 0 {
			t.Fatalf("%v turned: resistance %s, before %s", squares, reciprocal, resistance)
		}
		if gcd(width, height) == 1 && trees(n, wires).Cmp(big.NewRat(int64(most), 1)) < 0 {
			t.Fatalf("%v: a square of %d and %s spanning trees", squares, most, trees(n, wires))
		}
	}
}

func TestCurrentsKnown(t *testing.T) {
	cases := []struct {
		n          int
		wires      []api.Pair
		currents   []api.Num
		resistance api.Num
	}{
		{2, []api.Pair{{A: 0, B: 1}}, []api.Num{"1"}, "1"},
		{2, []api.Pair{{A: 1, B: 0}}, []api.Num{"-1"}, "1"},
		{2, []api.Pair{{A: 0, B: 1}, {A: 1, B: 0}, {A: 0, B: 1}}, []api.Num{"1", "-1", "1"}, "1/3"},
		{3, []api.Pair{{A: 0, B: 1}, {A: 1, B: 2}}, []api.Num{"1", "1"}, "2"},
		{3, []api.Pair{{A: 0, B: 2}, {A: 1, B: 2}}, []api.Num{"1", "0"}, "1"}, // only one wire meets node 1
		{3, []api.Pair{{A: 0, B: 2}, {A: 1, B: 0}}, []api.Num{"1", "0"}, "1"},
		{3, []api.Pair{{A: 0, B: 2}, {A: 0, B: 1}, {A: 1, B: 2}}, []api.Num{"2", "1", "1"}, "2/3"},
		{3, []api.Pair{{A: 2, B: 0}, {A: 1, B: 0}, {A: 2, B: 1}}, []api.Num{"-2", "-1", "-1"}, "2/3"},
		{3, []api.Pair{{A: 0, B: 1}, {A: 0, B: 1}, {A: 1, B: 2}}, []api.Num{"1", "1", "2"}, "3/2"},
		// A bridge without a current, and one with a current backwards.
		{4, []api.Pair{{A: 0, B: 1}, {A: 0, B: 2}, {A: 1, B: 2}, {A: 1, B: 3}, {A: 2, B: 3}}, []api.Num{"1", "1", "0", "1", "1"}, "1"},
		{4, []api.Pair{{A: 0, B: 1}, {A: 0, B: 2}, {A: 0, B: 2}, {A: 1, B: 2}, {A: 1, B: 3}, {A: 2, B: 3}}, []api.Num{"5", "4", "4", "-1", "6", "7"}, "11/13"},
		// A ring that hangs on one node.
		{4, []api.Pair{{A: 0, B: 3}, {A: 0, B: 1}, {A: 1, B: 2}, {A: 2, B: 0}}, []api.Num{"1", "0", "0", "0"}, "1"},
	}
	for _, c := range cases {
		checkFlow(t, c.n, c.wires)
		if l, e := Currents(c.n, c.wires); e != api.OK || !slices.Equal(l, c.currents) {
			t.Errorf("Currents(%d, %v) = %v, %d, want %v", c.n, c.wires, l, e, c.currents)
		}
		if l, e := Resistance(c.n, c.wires); e != api.OK || l != c.resistance {
			t.Errorf("Resistance(%d, %v) = %s, %d, want %s", c.n, c.wires, l, e, c.resistance)
		}
	}
}

// levels returns how much lower than node 0 each node is by the currents along a tree of wires.
func levels(n int, wires []api.Pair, currents []int) []int {
	levels, known := make([]int, n), make([]bool, n)
	known[0] = true
	for range n {
		for i, w := range wires {
			switch {
			case known[w.A] && !known[w.B]:
				levels[w.B], known[w.B] = levels[w.A]+currents[i], true
			case known[w.B] && !known[w.A]:
				levels[w.A], known[w.A] = levels[w.B]-currents[i], true
			}
		}
	}
	return levels
}

// checkFlow checks H3 and what the chapter says of currents and resistances, by their definitions (P1, P2).
func checkFlow(t *testing.T, n int, wires []api.Pair) {
	t.Helper()
	written, e := Currents(n, wires)
	if e != api.OK || len(written) != len(wires) {
		t.Fatalf("Currents(%d, %v) = %v, %d", n, wires, written, e)
	}
	var currents []int
	common := 0
	leaving := make([]int, n)
	for i, w := range wires {
		c := whole(t, written[i])
		currents = append(currents, c)
		common = gcd(common, c)
		leaving[w.A] += c
		leaving[w.B] -= c
	}
	if common != 1 || leaving[0] <= 0 || leaving[n-1] != -leaving[0] {
		t.Fatalf("Currents(%d, %v) = %v", n, wires, written)
	}
	for i := 1; i < n-1; i++ {
		if leaving[i] != 0 {
			t.Fatalf("Currents(%d, %v) = %v do not balance in node %d", n, wires, written, i)
		}
	}
	// The currents around each ring sum to 0 if and only if each is the difference of the levels of its ends.
	level := levels(n, wires, currents)
	for i, w := range wires {
		if level[w.B]-level[w.A] != currents[i] {
			t.Fatalf("Currents(%d, %v) = %v do not sum to 0 around a ring with wire %d", n, wires, written, i)
		}
	}
	resistance, e := Resistance(n, wires)
	if e != api.OK || rat(t, resistance).Cmp(big.NewRat(int64(level[n-1]), int64(leaving[0]))) != 0 {
		t.Fatalf("Resistance(%d, %v) = %s, %d, currents %v", n, wires, resistance, e, written)
	}
}

// someNetwork returns a random tree of nodes, with more wires.
func someNetwork(r *rand.Rand) (int, []api.Pair) {
	n := r.Intn(api.MaxNodes-1) + 2
	names := r.Perm(n)
	near := r.Intn(n) + 1
	var wires []api.Pair
	add := func(a, b int) {
		if r.Intn(2) == 0 {
			a, b = b, a
		}
		wires = append(wires, api.Pair{A: names[a], B: names[b]})
	}
	for i := 1; i < n; i++ {
		add(i, max(0, i-1-r.Intn(near)))
	}
	for range r.Intn(api.MaxWires - n + 2) {
		if a, b := r.Intn(n), r.Intn(n); a != b {
			add(a, b)
		}
	}
	r.Shuffle(len(wires), func(i, j int) { wires[i], wires[j] = wires[j], wires[i] })
	return n, wires
}

// merged makes one node of node 0 and the last one.
func merged(n int, wires []api.Pair) (int, []api.Pair) {
	var out []api.Pair
	for _, w := range wires {
		w.A, w.B = w.A%(n-1), w.B%(n-1)
		if w.A != w.B {
			out = append(out, w)
		}
	}
	return n - 1, out
}

// TestFlow: H3, P1 and P2. The resistance is also a quotient of two counts of spanning trees (Kirchhoff).
func TestFlow(t *testing.T) {
	r := rand.New(rand.NewSource(13))
	below, none, several := 0, 0, 0
	for range 3000 {
		n, wires := someNetwork(r)
		checkFlow(t, n, wires)
		resistance, _ := Resistance(n, wires)
		want := big.NewRat(1, 1)
		if n > 2 {
			want = trees(merged(n, wires))
		}
		want.Quo(want, trees(n, wires))
		if rat(t, resistance).Cmp(want) != 0 {
			t.Fatalf("Resistance(%d, %v) = %s, want %s", n, wires, resistance, want)
		}
		currents, _ := Currents(n, wires)
		seen := map[api.Pair]bool{}
		for i, w := range wires {
			if seen[w] || seen[api.Pair{A: w.B, B: w.A}] {
				several++
			}
			seen[w] = true
			switch sign := whole(t, currents[i]); {
			case sign < 0:
				below++
			case sign == 0:
				none++
			}
		}
	}
	if below < 1000 || none < 1000 || several < 1000 {
		t.Fatalf("%d currents below 0, %d of 0, %d wires beside others", below, none, several)
	}
}

// TestGreatNetworks: networks at their limits, and those of many spanning trees, by which numbers become great.
func TestGreatNetworks(t *testing.T) {
	var path, star, bundle, wheel, ladder []api.Pair
	for i := range api.MaxWires {
		path = append(path, api.Pair{A: i, B: i + 1})
		star = append(star, api.Pair{A: api.MaxNodes - 1 - i, B: 0})
		bundle = append(bundle, api.Pair{A: i % 2, B: 1 - i%2})
	}
	for i := range 12 {
		wheel = append(wheel, api.Pair{A: i, B: (i + 1) % 12}, api.Pair{A: i, B: 12})
	}
	for i := range 8 {
		ladder = append(ladder, api.Pair{A: 2 * i, B: 2*i + 1}, api.Pair{A: 2 * i, B: 2*i + 2}, api.Pair{A: 2*i + 1, B: 2*i + 3})
	}
	checkFlow(t, api.MaxNodes, path)
	checkFlow(t, api.MaxNodes, star)
	checkFlow(t, 2, bundle)
	checkFlow(t, 13, wheel)
	checkFlow(t, 18, ladder)
	if x, e := Resistance(api.MaxNodes, path); e != api.OK || x != "24" {
		t.Errorf("Resistance of a path = %s, %d", x, e)
	}
	if x, e := Resistance(2, bundle); e != api.OK || x != "1/24" {
		t.Errorf("Resistance of a bundle = %s, %d", x, e)
	}
}

func checkNoNetwork(t *testing.T, n int, wires []api.Pair, want api.Errno) {
	t.Helper()
	if l, e := Currents(n, wires); e != want || len(l) != 0 {
		t.Errorf("Currents(%d, %v) = %v, %d, want %d", n, wires, l, e, want)
	}
	if l, e := Resistance(n, wires); e != want || l != "" {
		t.Errorf("Resistance(%d, %v) = %s, %d, want %d", n, wires, l, e, want)
	}
}

func TestNetworkErrors(t *testing.T) {
	one := []api.Pair{{A: 0, B: 1}}
	bundle := slices.Repeat(one, api.MaxWires)
	checkFlow(t, 2, bundle)
	checkNoNetwork(t, 2, append(bundle, one...), api.ErrLong)
	for _, n := range []int{math.MinInt, -1, 0, 1, 26, math.MaxInt} { // R2: ErrLong before ErrArg
		checkNoNetwork(t, n, append(bundle, one...), api.ErrLong)
		checkNoNetwork(t, n, make([]api.Pair, api.MaxWires+1), api.ErrLong)
		checkNoNetwork(t, n, one, api.ErrArg)
		checkNoNetwork(t, n, nil, api.ErrArg)
		checkNoNetwork(t, n, []api.Pair{{A: 0, B: 0}}, api.ErrArg)
	}
	checkNoNetwork(t, 2, append(bundle, api.Pair{A: -1, B: 5}), api.ErrLong)
	bad := []api.Pair{
		{A: 0, B: 0}, {A: 1, B: 1}, {A: 2, B: 2}, {A: -1, B: 1}, {A: 1, B: -1}, {A: 0, B: 3}, {A: 3, B: 0}, {A: -1, B: -1}, {A: 3, B: 3},
		{A: math.MaxInt, B: 0}, {A: 0, B: math.MinInt}, {A: math.MinInt, B: math.MaxInt},
	}
	for _, w := range bad {
		checkNoNetwork(t, 3, []api.Pair{w}, api.ErrArg)
		checkNoNetwork(t, 3, []api.Pair{{A: 0, B: 1}, {A: 1, B: 2}, w}, api.ErrArg)
		checkNoNetwork(t, 3, []api.Pair{w, {A: 0, B: 1}, {A: 1, B: 2}}, api.ErrArg)
	}
	apart := [][]api.Pair{
		nil, {}, {{A: 0, B: 1}}, {{A: 2, B: 3}}, {{A: 0, B: 1}, {A: 2, B: 3}}, {{A: 0, B: 3}, {A: 1, B: 2}}, {{A: 0, B: 1}, {A: 1, B: 2}, {A: 2, B: 0}},
		{{A: 0, B: 1}, {A: 1, B: 3}, {A: 0, B: 3}, {A: 3, B: 0}}, {{A: 1, B: 2}, {A: 2, B: 3}, {A: 3, B: 1}},
	}
	for _, wires := range apart {
		checkNoNetwork(t, 4, wires, api.ErrArg)
	}
	// As many nodes as there may be need all wires.
	var path []api.Pair
	for i := range api.MaxWires {
		path = append(path, api.Pair{A: i, B: i + 1})
	}
	path[7].A = 23
	checkNoNetwork(t, api.MaxNodes, path, api.ErrArg)
	checkNoNetwork(t, api.MaxNodes+1, path, api.ErrArg)
}

// TestNetworkArguments: R5, R6 and P6.
func TestNetworkArguments(t *testing.T) {
	r := rand.New(rand.NewSource(14))
	for range 200 {
		n, wires := someNetwork(r)
		n -= r.Intn(2)
		before := slices.Clone(wires)
		currents, e := Currents(n, wires)
		resistance, _ := Resistance(n, wires)
		old := slices.Clone(currents)
		clear(currents[:cap(currents)])
		currents, f := Currents(n, wires)
		again, _ := Resistance(n, wires)
		if e != f || resistance != again || !slices.Equal(wires, before) || !slices.Equal(currents, old) {
			t.Fatalf("%d, %v: arguments were changed, results share memory, or they differ", n, before)
		}
	}
}
