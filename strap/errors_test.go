package strap

import (
	"math"
	"math/rand"
	"slices"
	"testing"

	"pommel/api"
)

// results are the results of all functions, for any arguments.
type results struct {
	lists  [9][]int
	errors [10]api.Errno
	often  int
}

// numbers are the arguments of the functions that are given no strap.
type numbers struct {
	k, length, v, size, often, q int
}

func allResults(holes []int, v int, set []int, n numbers) results {
	var x results
	e := &x.errors
	x.lists[0], e[0] = Distances(holes)
	x.lists[1], e[1] = Twice(holes)
	x.lists[2], e[2] = Misses(holes)
	x.lists[3], e[3] = Multipliers(v, set)
	x.lists[4], e[4] = Canon(v, set)
	x.lists[5], e[5] = Single(n.k)
	x.lists[6], e[6] = Full(n.length)
	x.lists[7], e[7] = Round(n.v, n.size, n.often)
	x.lists[8], e[8] = Singer(n.q)
	x.often, e[9] = Even(v, set)
	return x
}

func (x results) same(y results) bool {
	for i := range x.lists {
		if !slices.Equal(x.lists[i], y.lists[i]) {
			return false
		}
	}
	return x.errors == y.errors && x.often == y.often
}

func (x results) cloned() results {
	for i := range x.lists {
		x.lists[i] = slices.Clone(x.lists[i])
	}
	return x
}

func (x results) spoil() {
	for i := range x.lists {
		clear(x.lists[i][:cap(x.lists[i])])
	}
}

// checkHolesError checks the error of all functions of a strap, and that their other results are zero values (R3).
func checkHolesError(t *testing.T, holes []int, want api.Errno) {
	t.Helper()
	x := allResults(holes, 2, []int{0}, numbers{})
	for i := range 3 {
		if x.errors[i] != want || len(x.lists[i]) != 0 {
			t.Errorf("function %d of %v: %v, %d, want %d", i, holes, x.lists[i], x.errors[i], want)
		}
	}
}

// checkSetError checks the error of all functions of a round strap, and that their other results are zero values (R3).
func checkSetError(t *testing.T, v int, set []int, want api.Errno) {
	t.Helper()
	if often, e := Even(v, set); e != want || often != 0 {
		t.Errorf("Even(%d, %v) = %d, %d, want %d", v, set, often, e, want)
	}
	if list, e := Multipliers(v, set); e != want || len(list) != 0 {
		t.Errorf("Multipliers(%d, %v) = %v, %d, want %d", v, set, list, e, want)
	}
	if canon, e := Canon(v, set); e != want || len(canon) != 0 {
		t.Errorf("Canon(%d, %v) = %v, %d, want %d", v, set, canon, e, want)
	}
}

// badHoles returns lists that are no straps, but not too long.
func badHoles() [][]int {
	falling := upTo(api.MaxMarks)
	slices.Reverse(falling)
	return [][]int{
		nil, {}, {1}, {-1}, {1, 2}, {-1, 0}, {-1, 0, 1}, {0, 0}, {0, -1}, {0, 1, 1}, {0, 2, 1}, {0, 1, 0}, {0, 3, 3, 4}, {0, 4, 2, 5},
		{api.MaxStrap}, {0, api.MaxStrap + 1}, {0, 1, api.MaxStrap + 1}, {0, api.MaxStrap + 1, api.MaxStrap + 2}, {0, 1001, 5}, {1, 1000},
		{math.MaxInt}, {math.MinInt}, {0, math.MaxInt}, {0, math.MinInt}, {math.MinInt, 0}, {math.MinInt, 0, math.MaxInt}, {math.MinInt, math.MaxInt},
		{0, math.MaxInt, math.MinInt}, {0, 1, math.MinInt, 3}, falling, upTo(api.MaxMarks + 1)[1:], make([]int, api.MaxMarks),
	}
}

func TestHolesErrors(t *testing.T) {
	for _, bad := range badHoles() {
		checkHolesError(t, bad, api.ErrForm)
	}
	long := [][]int{upTo(api.MaxMarks + 1), upTo(1000), make([]int, 1<<20)}
	for _, bad := range badHoles() { // R2: ErrLong first
		long = append(long, append(bad, make([]int, api.MaxMarks+1-len(bad))...), append(upTo(api.MaxMarks+1), bad...))
	}
	for _, holes := range long {
		checkHolesError(t, holes, api.ErrLong)
	}
	for k := 1; k <= api.MaxMarks; k++ {
		distancesOf(t, upTo(k))
		missesOf(t, upTo(k))
		if single := isSingle(t, upTo(k)); single != (k < 3) {
			t.Errorf("%d holes one after the other are single: %t", k, single)
		}
	}
}

// badCounts returns numbers of places that are out of their range.
func badCounts() []int {
	return []int{math.MinInt, -32, -31, -7, -2, -1, 0, 1, api.MaxRound + 1, 100, math.MaxInt}
}

// badSets returns sets that are malformed for that number of places, but not too long.
func badSets(v int) [][]int {
	return [][]int{
		nil, {}, {v}, {-1}, {v + 1}, {0, v}, {-1, 0}, {0, 0}, {1, 1}, {1, 0}, {0, 1, 1}, {0, 1, 0}, {0, -1}, {v - 1, v}, upTo(v + 1)[1:],
		{math.MaxInt}, {math.MinInt}, {0, math.MaxInt}, {0, math.MinInt}, {math.MinInt, 0}, {math.MinInt, math.MaxInt}, {0, math.MaxInt, math.MinInt},
		{v - 1, v - 2}, make([]int, api.MaxRound),
	}
}

func TestSetErrors(t *testing.T) {
	for v := 2; v <= api.MaxRound; v++ {
		for _, bad := range badSets(v) {
			checkSetError(t, v, bad, api.ErrForm)
		}
		if v < api.MaxRound {
			checkSetError(t, v, upTo(v+1), api.ErrForm)
			checkSetError(t, v, upTo(api.MaxRound), api.ErrForm)
		}
		checkWhole(t, v, []int{0}, 0)
		checkWhole(t, v, []int{v - 1}, 0)
		checkWhole(t, v, upTo(v), v)
	}
	for _, v := range badCounts() { // R2: ErrArg before ErrForm
		for _, set := range append(badSets(7), []int{0}, []int{0, 1}, upTo(api.MaxRound)) {
			checkSetError(t, v, set, api.ErrArg)
		}
	}
	for _, v := range append(badCounts(), 2, 7, 30, api.MaxRound) { // R2: ErrLong before both
		checkSetError(t, v, upTo(api.MaxRound+1), api.ErrLong)
		checkSetError(t, v, make([]int, api.MaxRound+1), api.ErrLong)
		checkSetError(t, v, slices.Repeat([]int{math.MinInt}, 1000), api.ErrLong)
	}
}

// checkWhole checks a round strap with one place or with all, which every unit multiplies.
func checkWhole(t *testing.T, v int, set []int, want int) {
	t.Helper()
	if often, ok := evenOf(t, v, set); !ok || often != want {
		t.Errorf("Even(%d, %v) = %d, %t", v, set, often, ok)
	}
	if list := multipliersOf(t, v, set); !slices.Equal(list, units(v)) {
		t.Errorf("Multipliers(%d, %v) = %v", v, set, list)
	}
	if canon := canonOf(t, v, set); !slices.Equal(canon, upTo(len(set))) {
		t.Errorf("Canon(%d, %v) = %v", v, set, canon)
	}
}

// TestNotEven: Even alone returns ErrNone, for sets that are not even.
func TestNotEven(t *testing.T) {
	for _, c := range [][]int{{4, 0, 1}, {5, 0, 1}, {8, 0, 1, 3}, {31, 0, 1}, {30, 0, 15}} {
		v, set := c[0], c[1:]
		if often, e := Even(v, set); e != api.ErrNone || often != 0 {
			t.Errorf("Even(%d, %v) = %d, %d", v, set, often, e)
		}
		multipliersOf(t, v, set)
		canonOf(t, v, set)
	}
}

func TestNumberErrors(t *testing.T) {
	for _, n := range []int{math.MinInt, -1000, -7, -1, 0, api.MaxGolomb + 1, 1000, math.MaxInt} {
		if holes, e := Single(n); e != api.ErrArg || len(holes) != 0 {
			t.Errorf("Single(%d) = %v, %d", n, holes, e)
		}
	}
	for _, n := range []int{math.MinInt, -1000, -20, -1, 0, api.MaxSparse + 1, 1000, math.MaxInt} {
		if holes, e := Full(n); e != api.ErrArg || len(holes) != 0 {
			t.Errorf("Full(%d) = %v, %d", n, holes, e)
		}
	}
	others := []int{math.MinInt, -5, -3, -2, 32, 1 << 16, 1<<32 + 2, math.MaxInt}
	for n := -1; n < 32; n++ {
		if n != 2 && n != 3 && n != 5 {
			others = append(others, n)
		}
	}
	for _, n := range others {
		if set, e := Singer(n); e != api.ErrArg || len(set) != 0 {
			t.Errorf("Singer(%d) = %v, %d", n, set, e)
		}
	}
}

func checkRoundError(t *testing.T, v, k, often int) {
	t.Helper()
	if set, e := Round(v, k, often); e != api.ErrArg || len(set) != 0 {
		t.Errorf("Round(%d, %d, %d) = %v, %d", v, k, often, set, e)
	}
}

func TestRoundErrors(t *testing.T) {
	wrong := []int{math.MinInt, -7, -1, 0}
	for _, v := range badCounts() {
		for _, k := range append(wrong, 1, 2, 3, 6, 7, v, v-1, math.MaxInt) {
			for _, often := range append(wrong, 1, 2, v, math.MaxInt) {
				checkRoundError(t, v, k, often)
			}
		}
	}
	for often := -1; often <= 3; often++ {
		for k := -1; k <= 7; k++ { // no k is 2 to 1
			checkRoundError(t, 2, k, often)
		}
	}
	for v := 3; v <= api.MaxRound; v++ {
		for _, k := range append(wrong, 1, min(6, v-1)+1, v, v+1, 7, 31, math.MaxInt) {
			for _, often := range append(wrong, 1, 2, v, v+1, math.MaxInt) {
				if k < 2 || k > min(6, v-1) {
					checkRoundError(t, v, k, often)
				}
			}
		}
		for _, often := range append(wrong, v+1, v+2, 1000, math.MaxInt) {
			checkRoundError(t, v, 2, often)
			checkRoundError(t, v, min(6, v-1), often)
		}
	}
}

// TestRoundNone: k of 2, of 6 and of v - 1, with such a strap and without.
func TestRoundNone(t *testing.T) {
	for _, c := range [][3]int{
		{4, 2, 1}, {31, 2, 1}, {31, 2, 31}, {16, 6, 2}, {31, 6, 2}, {30, 6, 1}, {7, 6, 4}, {7, 6, 6}, {6, 5, 5}, {3, 2, 2}, {3, 2, 3}, {8, 3, 1},
	} {
		if set, e := Round(c[0], c[1], c[2]); e != api.ErrNone || len(set) != 0 {
			t.Errorf("Round of %v = %v, %d", c, set, e)
		}
	}
	for _, c := range [][3]int{{3, 2, 1}, {31, 6, 1}, {11, 6, 3}, {7, 6, 5}, {6, 5, 4}, {4, 3, 2}} {
		if set, e := Round(c[0], c[1], c[2]); e != api.OK || len(set) != c[1] || set[0] != 0 {
			t.Errorf("Round of %v = %v, %d", c, set, e)
		}
	}
}

// anyList returns a list that may be a strap, a set of places, or malformed.
func anyList(r *rand.Rand, v int) []int {
	v = max(2, min(v, api.MaxRound))
	bad := append(badHoles(), badSets(v)...)
	switch r.Intn(6) {
	case 0:
		return bad[r.Intn(len(bad))]
	case 1:
		return upTo(r.Intn(50))
	case 2, 3:
		return someStrap(r, 10, 100)
	}
	return someSet(r, v)
}

// TestArguments: R1, R3, R4, R5, R6 and P6, for arguments of which many are not valid; all of them lie in longer arrays.
func TestArguments(t *testing.T) {
	r := rand.New(rand.NewSource(4))
	for range 500 {
		v := r.Intn(api.MaxRound+4) - 1
		a, b := anyList(r, v), anyList(r, v)
		n := numbers{r.Intn(10) - 1, r.Intn(24) - 1, v, r.Intn(9) - 1, r.Intn(6) - 1, r.Intn(8) - 1}
		room := slices.Concat(a, []int{-7, -8}, b, []int{-9})
		holes, set := room[:len(a)], room[len(a)+2:len(a)+2+len(b)]
		kept := slices.Clone(room)
		first := allResults(holes, v, set, n)
		old := first.cloned()
		first.spoil()
		allResults(set, r.Intn(40), holes, numbers{v: 7, size: 3, often: 1})
		if !slices.Equal(room, kept) {
			t.Fatalf("%d, %v, %v: arguments are changed", v, a, b)
		}
		again := allResults(slices.Clone(a), v, slices.Clone(b), n)
		clear(room)
		if !again.same(old) {
			t.Fatalf("%d, %v, %v, %v: results share memory or differ", v, a, b, n)
		}
		for i, list := range old.lists {
			if old.errors[i] != api.OK && len(list) > 0 {
				t.Fatalf("%d, %v, %v, %v: function %d = %v, %d", v, a, b, n, i, list, old.errors[i])
			}
		}
	}
	if !allResults(nil, 7, nil, numbers{}).same(allResults([]int{}, 7, []int{}, numbers{})) {
		t.Error("nil and empty lists differ")
	}
}

// TestNewMemory: R5: a result that equals its argument is a copy of it.
func TestNewMemory(t *testing.T) {
	set := []int{0, 1, 3, 9}
	canon := canonOf(t, 13, set)
	canon[1] = 5
	if again := canonOf(t, 13, set); set[1] != 1 || again[1] != 1 {
		t.Errorf("%v, %v", set, again)
	}
	holes := single(t, api.MaxGolomb)
	clear(holes)
	if again := single(t, api.MaxGolomb); again[1] != 1 {
		t.Errorf("Single = %v", again)
	}
}
