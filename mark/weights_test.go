package mark

import (
	"cmp"
	"math/rand"
	"slices"
	"testing"

	"pommel/api"
)

// bestOf returns the list of lengths that costs least, of several ones the lexicographically least one.
func bestOf(weights []int, lists [][]int) []int {
	return slices.MinFunc(lists, func(a, b []int) int {
		return cmp.Or(cmp.Compare(costOf(a, weights), costOf(b, weights)), slices.Compare(a, b))
	})
}

// risingLists returns all lists of so many lengths in rising order whose sum is at most 1.
func risingLists(count int) [][]int {
	var lists [][]int
	var extend func(list []int, left int)
	extend = func(list []int, left int) {
		if len(list) == count {
			lists = append(lists, slices.Clone(list))
			return
		}
		least := 1
		if len(list) > 0 {
			least = list[len(list)-1]
		}
		for length := least; length <= api.MaxBits; length++ {
			if part := 1 << (api.MaxBits - length); part <= left {
				extend(append(list, length), left-part)
			}
		}
	}
	extend(nil, 1<<api.MaxBits)
	return lists
}

// huffmanOf returns the best of rising lists, of which each is given to the weights such that it costs least: lesser lengths to greater weights
// and, of equal weights, to those that come first.
func huffmanOf(weights []int, lists [][]int) []int {
	var order []int
	for i := range weights {
		order = append(order, i)
	}
	slices.SortStableFunc(order, func(i, j int) int { return cmp.Compare(weights[j], weights[i]) })
	var given [][]int
	for _, list := range lists {
		lengths := make([]int, len(weights))
		for at, i := range order {
			lengths[i] = list[at]
		}
		given = append(given, lengths)
	}
	return bestOf(weights, given)
}

// depths returns the depths of the ends of all trees with so many ends that part in two at each other place, and are at most so deep:
// in other trees some depths can be made less, and none greater.
func depths(ends, deepest int) [][]int {
	if ends == 1 {
		return [][]int{{0}}
	}
	if deepest == 0 {
		return nil
	}
	var lists [][]int
	for left := 1; left < ends; left++ {
		others := depths(ends-left, deepest-1)
		for _, a := range depths(left, deepest-1) {
			for _, b := range others {
				var list []int
				for _, depth := range slices.Concat(a, b) {
					list = append(list, depth+1)
				}
				lists = append(lists, list)
			}
		}
	}
	return lists
}

type search func(weights []int) ([]int, int, api.Errno)

func checkBest(t *testing.T, what string, f search, weights, want []int) {
	t.Helper()
	lengths, cost, e := f(weights)
	if !slices.Equal(lengths, want) || cost != costOf(want, weights) || e != api.OK {
		t.Errorf("%s(%v) = %v, %d, %d, want %v, %d", what, weights, lengths, cost, e, want, costOf(want, weights))
	}
}

func TestBest(t *testing.T) {
	for _, c := range []struct {
		weights, huffman, tucker []int
	}{
		{[]int{1, 1, 2}, []int{2, 2, 1}, []int{2, 2, 1}},
		{[]int{1, 3, 1}, []int{2, 1, 2}, []int{1, 2, 2}},
		{[]int{0, 0}, []int{1, 1}, []int{1, 1}},
		{[]int{0, api.MaxWeight}, []int{1, 1}, []int{1, 1}},
		{[]int{api.MaxWeight, api.MaxWeight}, []int{1, 1}, []int{1, 1}},
		{[]int{1, 1, 1}, []int{1, 2, 2}, []int{1, 2, 2}},          // not 2 1 2 or 2 2 1
		{[]int{2, 1, 1, 1}, []int{1, 2, 3, 3}, []int{1, 2, 3, 3}}, // not 2 2 2 2
		{[]int{1, 1, 1, 2}, []int{2, 2, 2, 2}, []int{2, 2, 2, 2}}, // not 3 3 2 1
		{[]int{2, 1, 1, 2}, []int{1, 3, 3, 2}, []int{1, 3, 3, 2}}, // not 2 2 2 2
		{[]int{5, 0, 0}, []int{1, 2, 2}, []int{1, 2, 2}},
		{[]int{0, 5, 5}, []int{2, 1, 2}, []int{2, 2, 1}},
		{[]int{0, 5, 0}, []int{2, 1, 2}, []int{1, 2, 2}},
		{[]int{0, 0, 0}, []int{1, 2, 2}, []int{1, 2, 2}},
		{[]int{0, 0, 0, 0}, []int{1, 2, 3, 3}, []int{1, 2, 3, 3}},
		{make([]int, api.MaxMarked), []int{1, 2, 3, 4, 5, 6, 7, 8, 10, 10, 10, 10}, []int{1, 2, 3, 4, 5, 6, 7, 8, 10, 10, 10, 10}}, // 9 leaves too little
		{slices.Repeat([]int{api.MaxWeight}, api.MaxMarked), []int{3, 3, 3, 3, 4, 4, 4, 4, 4, 4, 4, 4}, []int{3, 3, 3, 3, 4, 4, 4, 4, 4, 4, 4, 4}},
		{[]int{1, 2, 4, 8, 16, 32, 64, 128, 256, 512, 1000}, []int{10, 10, 9, 8, 7, 6, 5, 4, 3, 2, 1}, []int{10, 10, 9, 8, 7, 6, 5, 4, 3, 2, 1}},
		{[]int{1, 1, 2, 3, 5, 8, 13, 21, 34, 55, 89, 144}, []int{10, 10, 9, 8, 7, 6, 5, 4, 3, 2, 2, 2}, []int{10, 10, 9, 8, 7, 6, 5, 4, 3, 2, 2, 2}}, // 11 11 10 9 8 7 6 5 4 3 2 1 costs less
		{[]int{987, 610, 377, 233, 144, 89, 55, 34, 21, 13, 8, 8}, []int{1, 2, 3, 4, 5, 6, 7, 8, 10, 10, 10, 10}, []int{1, 2, 3, 4, 5, 6, 7, 8, 10, 10, 10, 10}},
	} {
		checkBest(t, "Huffman", Huffman, c.weights, c.huffman)
		checkBest(t, "Tucker", Tucker, c.weights, c.tucker)
	}
}

// TestAllLengths: of few weights, all lengths are compared.
func TestAllLengths(t *testing.T) {
	r := rand.New(rand.NewSource(4))
	for _, c := range []struct{ count, greatest, letters int }{{2, 4, api.MaxBits}, {3, 4, api.MaxBits}, {4, 2, 6}, {5, 1, 5}} {
		var anyLists, orderedLists [][]int
		for lengths := range eachList(c.count, 1, c.letters) {
			if fits(lengths) {
				anyLists = append(anyLists, lengths)
			}
			if risingOf(lengths) != nil {
				orderedLists = append(orderedLists, lengths)
			}
		}
		all := slices.Collect(eachList(c.count, 0, c.greatest))
		for range 20 {
			all = append(all, someWeights(r, c.count))
		}
		for _, weights := range all {
			checkBest(t, "Huffman", Huffman, weights, bestOf(weights, anyLists))
			checkBest(t, "Tucker", Tucker, weights, bestOf(weights, orderedLists))
		}
	}
}

// someWeights returns random weights: any ones, or with many zeros, many equal ones, or ones that grow so fast that the best lengths do, too.
func someWeights(r *rand.Rand, count int) []int {
	kind := r.Intn(5)
	weights := make([]int, count)
	for i := range weights {
		switch kind {
		case 0:
			weights[i] = r.Intn(api.MaxWeight + 1)
		case 1:
			weights[i] = r.Intn(2) * r.Intn(5)
		case 2:
			weights[i] = 7 + r.Intn(3)
		case 3:
			weights[i] = min(1<<i+r.Intn(2), api.MaxWeight)
		default:
			weights[i] = api.MaxWeight >> r.Intn(11)
		}
	}
	switch r.Intn(4) {
	case 0:
		slices.Sort(weights)
	case 1:
		slices.Sort(weights)
		slices.Reverse(weights)
	case 2:
		r.Shuffle(count, func(i, j int) { weights[i], weights[j] = weights[j], weights[i] })
	}
	return weights
}

// TestManyWeights: P1 and P3 for up to MaxMarked weights.
func TestManyWeights(t *testing.T) {
	r := rand.New(rand.NewSource(5))
	longest := 0
	for count := 2; count <= api.MaxMarked; count++ {
		lists, trees := risingLists(count), depths(count, api.MaxBits)
		for range 25 {
			weights := someWeights(r, count)
			huffman, tucker := huffmanOf(weights, lists), bestOf(weights, trees)
			checkBest(t, "Huffman", Huffman, weights, huffman)
			checkBest(t, "Tucker", Tucker, weights, tucker)
			if slices.Max(huffman) == api.MaxBits && slices.Max(tucker) == api.MaxBits {
				longest++
			}
		}
	}
	if longest < 10 {
		t.Errorf("only %d times a length is MaxBits", longest)
	}
}

// TestC3: what keeping the order costs.
func TestC3(t *testing.T) {
	r := rand.New(rand.NewSource(6))
	dearer, limited := 0, 0
	for range 400 {
		weights := someWeights(r, 2+r.Intn(api.MaxMarked-1))
		huffman, least, e := Huffman(weights)
		tucker, cost, f := Tucker(weights)
		if e != api.OK || f != api.OK {
			t.Fatalf("%v: %d, %d", weights, e, f)
		}
		if cost < least {
			t.Errorf("%v: Huffman costs %d, Tucker %d", weights, least, cost)
		}
		if cost > least {
			dearer++
		}
		if slices.Max(huffman) == api.MaxBits {
			limited++
		} else if cost > least+sumOfWeights(weights) {
			t.Errorf("%v: Huffman costs %d, Tucker %d", weights, least, cost)
		}
		if !fits(huffman) || risingOf(tucker) == nil {
			t.Errorf("%v: lengths %v, %v", weights, huffman, tucker)
		}
	}
	if dearer < 100 || limited < 10 {
		t.Errorf("the order costs something %d times, lengths are limited %d times", dearer, limited)
	}
}

// TestC4: weights that never rise.
func TestC4(t *testing.T) {
	r := rand.New(rand.NewSource(7))
	for range 200 {
		weights := someWeights(r, 2+r.Intn(api.MaxMarked-1))
		slices.Sort(weights)
		for range 2 { // weights that never fall are read from behind: their codes turned around
			_, least, e := Huffman(weights)
			_, cost, f := Tucker(weights)
			if e != api.OK || f != api.OK || cost != least {
				t.Errorf("%v: Huffman costs %d, Tucker %d", weights, least, cost)
			}
			slices.Reverse(weights)
		}
	}
}
