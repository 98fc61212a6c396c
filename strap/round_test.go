package strap

import (
	"math/rand"
	"slices"
	"testing"

	"pommel/api"
)

// checkEven checks T1 and T3 of an even round strap.
func checkEven(t *testing.T, v, k, often int) {
	t.Helper()
	if k*(k-1) != often*(v-1) {
		t.Errorf("%d of %d places: each difference comes %d times", k, v, often)
	}
	root := 0
	for root*root < k-often {
		root++
	}
	if v%2 == 0 && root*root != k-often {
		t.Errorf("%d of %d places: %d is no square", k, v, k-often)
	}
}

func TestEven(t *testing.T) {
	cases := []struct {
		v, often int
		set      []int
		even     bool
	}{
		{2, 0, []int{0}, true}, {2, 0, []int{1}, true}, {2, 2, []int{0, 1}, true},
		{3, 1, []int{0, 2}, true}, {3, 3, []int{0, 1, 2}, true}, {4, 0, []int{0, 1}, false}, {4, 0, []int{0, 2}, false},
		{4, 2, []int{0, 1, 3}, true}, {7, 1, []int{0, 1, 3}, true}, {7, 1, []int{2, 4, 5}, true}, {7, 2, []int{2, 4, 5, 6}, true},
		{7, 0, []int{0, 1, 2}, false}, {7, 0, []int{6}, true}, {8, 0, []int{0, 1, 3}, false}, {11, 2, []int{1, 3, 4, 5, 9}, true},
		{13, 1, []int{0, 1, 3, 9}, true}, {15, 3, []int{0, 1, 2, 4, 5, 8, 10}, true}, {21, 1, []int{3, 6, 7, 12, 14}, true},
		{31, 1, []int{1, 5, 11, 24, 25, 27}, true}, {31, 0, []int{30}, true}, {31, 31, upTo(31), true}, {31, 29, upTo(30), true},
		{16, 0, []int{0, 1, 2, 4, 5, 8}, false}, {30, 0, []int{0, 15}, false},
	}
	for _, c := range cases {
		if often, ok := evenOf(t, c.v, c.set); ok != c.even || often != c.often {
			t.Errorf("Even(%d, %v) = %d, %t, want %d, %t", c.v, c.set, often, ok, c.often, c.even)
		}
	}
}

// TestAllEven: all round straps of few places: the definition, T1, T3 and T4.
func TestAllEven(t *testing.T) {
	for v, set := range all(12) {
		counts := counted(v, set)
		often, ok := evenOf(t, v, set)
		if ok != areEqual(counts) || ok && often != counts[0] {
			t.Fatalf("Even(%d, %v) = %d, %t", v, set, often, ok)
		}
		if ok {
			checkEven(t, v, len(set), often)
			checkRest(t, v, set)
		}
	}
}

// checkRest checks T4 of an even round strap.
func checkRest(t *testing.T, v int, set []int) {
	t.Helper()
	others := rest(v, set)
	if len(others) == 0 {
		return
	}
	often, ok := evenOf(t, v, others)
	if !ok || often != counted(v, others)[0] {
		t.Fatalf("Even(%d, %v) = %d, %t, though it is the rest of an even one", v, others, often, ok)
	}
	checkEven(t, v, len(others), often)
}

// evenSets returns even round straps of all kinds, with v in front: the squares modulo primes, those that Round finds,
// others that are known, one place, all places and all but one; and the rests of them all.
func evenSets() [][]int {
	var list [][]int
	for _, v := range []int{3, 7, 11, 19, 23, 31} {
		bits := 0
		for n := 1; n < v; n++ {
			bits |= 1 << (n * n % v)
		}
		list = append(list, append([]int{v}, setOf(bits)...))
	}
	for w, set := range wantRounds() {
		list = append(list, append([]int{w.v}, set...))
	}
	list = append(list, []int{15, 0, 1, 2, 4, 5, 8, 10}, []int{31, 1, 2, 3, 4, 6, 8, 12, 15, 16, 17, 23, 24, 27, 29, 30})
	for v := 2; v <= api.MaxRound; v++ {
		list = append(list, []int{v, v / 2}, append([]int{v}, upTo(v)...), append([]int{v}, upTo(v)[1:]...))
	}
	for _, s := range slices.Clone(list) {
		if others := rest(s[0], s[1:]); len(others) > 0 {
			list = append(list, append([]int{s[0]}, others...))
		}
	}
	return list
}

// TestKnownEven: T1 to T5 of even round straps of many places, multiplied and moved.
func TestKnownEven(t *testing.T) {
	r := rand.New(rand.NewSource(2))
	for _, s := range evenSets() {
		v, base := s[0], s[1:]
		canon := canonOf(t, v, base)
		for range 4 {
			by := units(v)[r.Intn(len(units(v)))]
			set := moved(v, base, by, r.Intn(v))
			often, ok := evenOf(t, v, set)
			if !ok || often != counted(v, set)[0] {
				t.Fatalf("Even(%d, %v) = %d, %t", v, set, often, ok)
			}
			checkEven(t, v, len(set), often)
			checkRest(t, v, set)
			checkHall(t, v, set, often)
			checkGroup(t, v, set)
			if again := canonOf(t, v, set); !slices.Equal(again, canon) {
				t.Fatalf("Canon(%d, %v) = %v, want %v", v, set, again, canon)
			}
		}
	}
}

// checkHall checks T2 of an even round strap.
func checkHall(t *testing.T, v int, set []int, often int) {
	t.Helper()
	if len(set) < 2 || len(set) == v {
		return
	}
	list := multipliersOf(t, v, set)
	for p := often + 1; p <= len(set)-often; p++ {
		if len(units(p)) != p-1 || p < 2 || (len(set)-often)%p != 0 || v%p == 0 {
			continue
		}
		if !slices.Contains(list, p%v) {
			t.Errorf("Multipliers(%d, %v) = %v, without %d", v, set, list, p)
		}
	}
}

// checkGroup checks T5 of a round strap, which need not be even.
func checkGroup(t *testing.T, v int, set []int) {
	t.Helper()
	list := multipliersOf(t, v, set)
	if len(list) == 0 || list[0] != 1 {
		t.Fatalf("Multipliers(%d, %v) = %v", v, set, list)
	}
	for _, a := range list {
		for _, b := range list {
			if !slices.Contains(list, a*b%v) {
				t.Fatalf("Multipliers(%d, %v) = %v, without %d times %d", v, set, list, a, b)
			}
		}
	}
}

// checkMultipliers checks the multipliers by the definition.
func checkMultipliers(t *testing.T, v int, set []int) {
	t.Helper()
	var want []int
	for _, by := range units(v) {
		for move := range v {
			if slices.Equal(moved(v, set, by, move), set) {
				want = append(want, by)
				break
			}
		}
	}
	if list := multipliersOf(t, v, set); !slices.Equal(list, want) {
		t.Fatalf("Multipliers(%d, %v) = %v, want %v", v, set, list, want)
	}
}

// checkCanon checks that the Canon is one of the sets that a set becomes, and none is less, and T8.
func checkCanon(t *testing.T, v int, set []int) []int {
	t.Helper()
	least := set
	for _, by := range units(v) {
		for move := range v {
			if other := moved(v, set, by, move); slices.Compare(other, least) < 0 {
				least = other
			}
		}
	}
	canon := canonOf(t, v, set)
	if !slices.Equal(canon, least) {
		t.Fatalf("Canon(%d, %v) = %v, want %v", v, set, canon, least)
	}
	if again := canonOf(t, v, canon); !slices.Equal(again, canon) {
		t.Fatalf("Canon(%d, %v) = %v", v, canon, again)
	}
	if a, b := multipliersOf(t, v, set), multipliersOf(t, v, canon); len(a) != len(b) {
		t.Fatalf("Multipliers of %d, %v and %v: %v and %v", v, set, canon, a, b)
	}
	return canon
}

func TestMultipliers(t *testing.T) {
	cases := []struct {
		v         int
		set, want []int
	}{
		{2, []int{0}, []int{1}}, {2, []int{1}, []int{1}}, {2, []int{0, 1}, []int{1}},
		{7, []int{0, 1, 3}, []int{1, 2, 4}}, {7, []int{0, 1}, []int{1, 6}}, {7, []int{3}, []int{1, 2, 3, 4, 5, 6}},
		{8, []int{0, 1, 3}, []int{1, 3}}, {8, []int{0, 4}, []int{1, 3, 5, 7}}, {8, upTo(8), []int{1, 3, 5, 7}},
		{9, []int{0, 1, 3}, []int{1}}, {12, []int{0, 1, 2, 5}, []int{1}}, {12, []int{0, 1, 5}, []int{1, 5}}, {13, []int{0, 1, 3, 9}, []int{1, 3, 9}},
		{31, []int{0, 1, 3, 8, 12, 18}, []int{1, 5, 25}}, {31, []int{30}, upTo(31)[1:]}, {31, upTo(31), upTo(31)[1:]},
		{30, []int{7}, []int{1, 7, 11, 13, 17, 19, 23, 29}},
	}
	for _, c := range cases {
		if list := multipliersOf(t, c.v, c.set); !slices.Equal(list, c.want) {
			t.Errorf("Multipliers(%d, %v) = %v, want %v", c.v, c.set, list, c.want)
		}
		checkMultipliers(t, c.v, c.set)
	}
}

func TestCanon(t *testing.T) {
	cases := []struct {
		v         int
		set, want []int
	}{
		{2, []int{1}, []int{0}}, {2, []int{0, 1}, []int{0, 1}}, {7, []int{6}, []int{0}}, {7, []int{2, 5}, []int{0, 1}},
		{7, []int{1, 2, 4}, []int{0, 1, 3}}, {7, []int{3, 5, 6}, []int{0, 1, 3}}, {7, []int{1, 4, 6}, []int{0, 1, 2}},
		{8, []int{1, 5}, []int{0, 4}}, {8, []int{2, 4}, []int{0, 2}}, {9, []int{2, 5, 8}, []int{0, 3, 6}},
		{12, []int{1, 4, 8}, []int{0, 1, 4}}, {31, []int{30}, []int{0}}, {31, upTo(31), upTo(31)}, {31, upTo(31)[1:], upTo(30)},
		{31, []int{1, 5, 11, 24, 25, 27}, []int{0, 1, 3, 8, 12, 18}}, {21, []int{3, 6, 7, 12, 14}, []int{0, 1, 4, 14, 16}},
	}
	for _, c := range cases {
		if canon := canonOf(t, c.v, c.set); !slices.Equal(canon, c.want) {
			t.Errorf("Canon(%d, %v) = %v, want %v", c.v, c.set, canon, c.want)
		}
		checkCanon(t, c.v, c.set)
	}
}

// TestAllCanons: all round straps of few places: the definitions, T5 and T8, also of those that are not even.
func TestAllCanons(t *testing.T) {
	for v, set := range all(9) {
		checkMultipliers(t, v, set)
		checkGroup(t, v, set)
		checkCanon(t, v, set)
	}
}

// TestSomeCanons: P4 and T8 of random round straps of up to MaxRound places, and of MaxRound.
func TestSomeCanons(t *testing.T) {
	r := rand.New(rand.NewSource(3))
	for i := range 150 {
		v := r.Intn(api.MaxRound-1) + 2
		if i%5 == 0 {
			v = api.MaxRound
		}
		set := someSet(r, v)
		checkMultipliers(t, v, set)
		checkGroup(t, v, set)
		canon := checkCanon(t, v, set)
		by := units(v)[r.Intn(len(units(v)))]
		other := moved(v, set, by, r.Intn(v))
		if again := canonOf(t, v, other); !slices.Equal(again, canon) {
			t.Fatalf("Canon(%d, %v) = %v, want %v", v, other, again, canon)
		}
		if a, b := multipliersOf(t, v, set), multipliersOf(t, v, other); len(a) != len(b) {
			t.Fatalf("Multipliers of %d, %v and %v: %v and %v", v, set, other, a, b)
		}
	}
}
