package kin

import (
	"fmt"
	"math"
	"math/rand"
	"slices"
	"strings"
	"testing"

	"pommel/api"
)

// results are the results of all functions, for any arguments.
type results struct {
	splits   [4][]api.Split
	bits     [2][]int
	low      [][]int
	far      [][]api.Num
	together bool
	errors   [9]api.Errno
}

func allResults(d [][]int, n int, splits []api.Split) results {
	var x results
	e := &x.errors
	for i, of := range []func([][]int) ([]api.Split, api.Errno){Tree, Buneman, Isolated, Join} {
		x.splits[i], e[i] = of(d)
	}
	x.bits[0], e[4] = Fits(d)
	x.bits[1], e[5] = Deep(d)
	x.low, e[6] = Below(d)
	x.far, e[7] = Distances(n, splits)
	x.together, e[8] = Compatible(n, splits)
	return x
}

// text writes results; nil and empty slices look the same.
func (x results) text() string {
	return fmt.Sprint(x)
}

// spoil writes over all memory of the results, also beyond the ends of the slices.
func (x results) spoil() {
	for _, splits := range x.splits {
		for _, s := range splits[:cap(splits)] {
			clear(s.Set[:cap(s.Set)])
		}
		clear(splits[:cap(splits)])
	}
	for _, bits := range x.bits {
		clear(bits[:cap(bits)])
	}
	for _, row := range x.low[:cap(x.low)] {
		clear(row[:cap(row)])
	}
	for _, row := range x.far[:cap(x.far)] {
		clear(row[:cap(row)])
	}
	clear(x.low[:cap(x.low)])
	clear(x.far[:cap(x.far)])
}

// checkZero checks that what comes with an error is a zero value (R3).
func (x results) checkZero(t *testing.T) {
	t.Helper()
	lengths := []int{len(x.splits[0]), len(x.splits[1]), len(x.splits[2]), len(x.splits[3]), len(x.bits[0]), len(x.bits[1]), len(x.low), len(x.far)}
	for i, length := range lengths {
		if x.errors[i] != api.OK && length > 0 {
			t.Errorf("function %d: %s", i, x.text())
		}
	}
	if x.errors[8] != api.OK && x.together {
		t.Errorf("Compatible: %s", x.text())
	}
}

// checkMatrix checks the error of all functions of distances.
func checkMatrix(t *testing.T, d [][]int, want api.Errno) {
	t.Helper()
	x := allResults(d, 1, nil)
	x.checkZero(t)
	for i, e := range x.errors[:7] {
		if e != want && (want != api.OK || e != api.ErrNone) {
			t.Errorf("function %d of %v: error %d, want %d", i, d, e, want)
		}
	}
}

// checkList checks the error of the functions of splits.
func checkList(t *testing.T, n int, splits []api.Split, want api.Errno) {
	t.Helper()
	x := allResults(nil, n, splits)
	x.checkZero(t)
	if x.errors[7] != want || x.errors[8] != want {
		t.Errorf("%d bits, %v: errors %d and %d, want %d", n, splits, x.errors[7], x.errors[8], want)
	}
}

// with returns distances of which one number is another one, and the number on the other side of the diagonal, too.
func with(d [][]int, i, j, far int) [][]int {
	d = cloned(d)
	d[i][j], d[j][i] = far, far
	return d
}

func TestMatrixErrors(t *testing.T) {
	three := metric(3, 3, 4, 5)
	slant := cloned(three)
	slant[2][0] = 5
	for _, d := range [][][]int{
		nil, {}, {nil}, {{}}, {{0, 0}}, {{1}}, {{-1}}, {{math.MinInt}}, {{math.MaxInt}},
		{{0, 1}}, {{0, 1}, nil}, {{0, 1}, {1}}, {{0, 1}, {1, 0, 0}}, {{0}, {0}}, {{0, 1}, {1, 0}, {}}, {{0, 1}, {1, 0}, {1, 1}}, {{0, 1, 0}, {1, 0, 0}},
		{{0, 1}, {2, 0}}, {{0, 1}, {0, 0}}, {{0, 1}, {1, 1}}, {{1, 1}, {1, 0}}, {{0, 1}, {1, -1}}, slant,
		metric(2, -1), metric(2, api.MaxUnlike+1), metric(2, math.MinInt), metric(2, math.MaxInt),
		with(three, 0, 1, 10), with(three, 0, 2, 9), with(three, 1, 2, 8), with(three, 0, 1, 0), with(three, 1, 2, -5),
		metric(3, math.MaxInt, math.MaxInt, math.MaxInt), metric(3, math.MinInt, math.MinInt, 0), metric(3, 10001, 10001, 10001),
		metric(3, 5000, 5000, 10001), metric(3, 1, 1, 3), metric(3, 0, 0, 1), metric(3, 0, 3, 4), metric(4, 1, 1, 1, 1, 1, 3),
		square(api.MaxKin + 1), square(100), lastApart(api.MaxKin, 5), lastApart(api.MaxKin, -1), lastApart(api.MaxKin+1, 2),
	} {
		checkMatrix(t, d, api.ErrArg)
	}
	for _, d := range [][][]int{
		metric(1), metric(2, 0), metric(2, 1), metric(2, api.MaxUnlike), three, with(three, 0, 1, 9), with(three, 0, 2, 8), with(three, 1, 2, 7), with(three, 0, 1, 1),
		metric(3, 5000, 5000, 10000), metric(3, 0, 10000, 10000), metric(3, 1, 1, 2), metric(3, 0, 0, 0), square(api.MaxKin), lastApart(api.MaxKin, 4),
	} {
		checkMatrix(t, d, api.OK)
	}
}

// TestMatrixPlaces: one wrong number at any place is seen.
func TestMatrixPlaces(t *testing.T) {
	for n := 1; n <= api.MaxKin; n++ {
		d := changed(square(n), func(_, _, _ int) int { return 3 })
		checkMatrix(t, d, api.OK)
		for i := range n {
			for j := range n {
				broken := cloned(d)
				broken[i][j]++
				checkMatrix(t, broken, api.ErrArg)
				if i != j && n > 2 {
					checkMatrix(t, with(d, i, j, 6), api.OK)
					checkMatrix(t, with(d, i, j, 7), api.ErrArg)
				}
			}
			broken := cloned(d)
			broken[i] = broken[i][:n-1]
			checkMatrix(t, broken, api.ErrArg)
			broken[i] = append(slices.Clone(d[i]), 0)
			checkMatrix(t, broken, api.ErrArg)
		}
	}
}

// TestNone: which functions return ErrNone for what fits a tree, or has equal depths, and for what does not.
func TestNone(t *testing.T) {
	for _, c := range []struct {
		d                [][]int
		tree, fits, deep api.Errno
	}{
		{metric(1), api.OK, api.ErrNone, api.ErrNone},
		{metric(3, 3, 4, 5), api.OK, api.ErrNone, api.OK},
		{metric(3, 3, 5, 5), api.OK, api.ErrNone, api.ErrNone},
		{metric(4, 1, 2, 1, 1, 2, 1), api.ErrNone, api.OK, api.OK},
	} {
		x := allResults(c.d, 1, nil)
		x.checkZero(t)
		if want := [9]api.Errno{0: c.tree, 4: c.fits, 5: c.deep}; x.errors != want {
			t.Errorf("%v: errors %v, want %v", c.d, x.errors, want)
		}
	}
}

func splitOf(length api.Num, set ...int) api.Split {
	return api.Split{Set: set, Length: length}
}

// times returns a list of as many splits.
func times(n int) []api.Split {
	return slices.Repeat([]api.Split{splitOf("1/3", 1)}, n)
}

func TestListErrors(t *testing.T) {
	wrong := []api.Split{splitOf("x", 0)}
	for _, n := range []int{math.MinInt, -1, 0, api.MaxKin + 1, 1 << 32, math.MaxInt} {
		for _, splits := range [][]api.Split{nil, {splitOf("1", 1)}, wrong, times(201)} {
			checkList(t, n, splits, api.ErrArg)
		}
	}
	for _, set := range [][]int{
		nil, {}, {0}, {0, 1}, {1, 0}, {-1}, {-1, 1}, {1, -1}, {1, 1}, {2, 1}, {1, 2, 2}, {1, 3, 2}, {4}, {1, 4}, {1, 2, 3, 4}, {8}, {64}, {1 << 32}, {1, math.MaxInt}, {math.MinInt, 1}, {1, 2, 3, 3},
	} {
		checkList(t, 4, []api.Split{{Set: set, Length: "1"}}, api.ErrForm)
		checkList(t, 4, []api.Split{splitOf("1", 1), splitOf("1", 1, 2, 3), {Set: set, Length: "1"}}, api.ErrForm)
		checkList(t, 4, []api.Split{{Set: set, Length: "1"}, splitOf("1", 1)}, api.ErrForm)
	}
	checkList(t, 1, []api.Split{splitOf("1", 1)}, api.ErrForm)
	checkList(t, 7, []api.Split{splitOf("1", 7)}, api.ErrForm)
	checkList(t, 8, []api.Split{splitOf("1", 8)}, api.ErrForm)
	checkList(t, 8, times(201), api.ErrForm)
	checkList(t, 8, slices.Repeat(wrong, 300), api.ErrForm)
	for _, splits := range [][]api.Split{nil, {}, {splitOf("1", 1), splitOf("1", 1)}, {splitOf("1", 7)}, {splitOf("2", 1, 2, 3, 4, 5, 6, 7)}, times(200)} {
		checkList(t, 8, splits, api.OK)
	}
	checkList(t, 1, nil, api.OK)
}

func TestLengthErrors(t *testing.T) {
	nines := strings.Repeat("9", 12)
	for _, length := range []string{
		"", "-", "-1", "-1/2", "-0", "+1", "01", "1/1", "1/0", "0/1", "2/4", "4/2", "1/02", "1/-2", "1/", "/2", " 1", "1 ", "1.5", "x", "1/2/3", "\x00", "\uff11",
		"1000000000000", "1/1000000000000", "9999999999999/2", nines + "/1000000000000", "-" + nines, strings.Repeat("1", 5000),
	} {
		checkList(t, 3, []api.Split{splitOf(api.Num(length), 1)}, api.ErrForm)
		checkList(t, 3, []api.Split{splitOf("1", 1), splitOf(api.Num(length), 2)}, api.ErrForm)
	}
	for _, length := range []string{"0", "1", "7/3", "1/2", nines, "1/" + nines, nines + "/999999999998", "1/100000000000", "100000000000"} {
		splits := []api.Split{splitOf(api.Num(length), 1)}
		checkList(t, 3, splits, api.OK)
		if far := distancesOf(t, 3, splits); far[1][2] != api.Num(length) || far[2][1] != api.Num(length) || far[0][2] != "0" {
			t.Errorf("%s: %v", length, far)
		}
	}
}

// anyMatrix returns a matrix that may be distances.
func anyMatrix(r *rand.Rand) [][]int {
	n := r.Intn(api.MaxKin) + 1
	d := someMetric(r, n, 1+r.Intn(9))
	switch r.Intn(6) {
	case 0:
		d[r.Intn(n)][r.Intn(n)] += r.Intn(5) - 2
	case 1:
		return d[:r.Intn(n)]
	case 2:
		d = square(api.MaxKin + r.Intn(3) - 1)
	case 3:
		d, _ = someTree(r, n, 3)
	}
	return d
}

// anyList returns a list that may be splits.
func anyList(r *rand.Rand) (int, []api.Split) {
	n := r.Intn(api.MaxKin-1) + 2
	splits := someSplits(r, n, r.Intn(5)+1, 3)
	switch at := r.Intn(len(splits)); r.Intn(6) {
	case 0:
		splits[at].Set = append(splits[at].Set, r.Intn(n+1))
	case 1:
		splits[at].Length = []api.Num{"-1", "2/2", "", "0", "1/7"}[r.Intn(5)]
	case 2:
		n = r.Intn(12) - 1
	}
	return n, splits
}

// roomy returns a copy whose slices lie in longer arrays, with other numbers behind their ends.
func roomy(d [][]int, splits []api.Split) ([][]int, []api.Split) {
	rows := append(slices.Clone(d), []int{-7}, nil)[:len(d)]
	for i, row := range rows {
		rows[i] = append(slices.Clone(row), -7, -8)[:len(row)]
	}
	list := append(slices.Clone(splits), api.Split{Length: "9"})[:len(splits)]
	for i, s := range list {
		list[i].Set = append(slices.Clone(s.Set), -9)[:len(s.Set)]
	}
	return rows, list
}

// whole writes slices with what lies behind their ends.
func whole(d [][]int, splits []api.Split) string {
	text := fmt.Sprint(d[:cap(d)], splits[:cap(splits)])
	for _, row := range d {
		text += fmt.Sprint(row[:cap(row)])
	}
	for _, s := range splits {
		text += fmt.Sprint(s.Set[:cap(s.Set)])
	}
	return text
}

// TestArguments: R1, R3, R4, R5, R6 and P6, for arguments of which many are not valid.
func TestArguments(t *testing.T) {
	r := rand.New(rand.NewSource(10))
	for range 500 {
		d := anyMatrix(r)
		n, splits := anyList(r)
		rows, list := roomy(d, splits)
		kept := whole(rows, list)
		first := allResults(rows, n, list)
		old := first.text()
		first.checkZero(t)
		first.spoil()
		allResults(anyMatrix(r), 3, times(2))
		if whole(rows, list) != kept {
			t.Fatalf("%v, %d, %v: arguments are changed", d, n, splits)
		}
		again := allResults(cloned(d), n, splits)
		for i := range rows {
			clear(rows[i])
		}
		for i := range list {
			clear(list[i].Set)
		}
		if again.text() != old {
			t.Fatalf("%v, %d, %v: results share memory or differ: %s, %s", d, n, splits, old, again.text())
		}
	}
	if allResults(nil, 3, nil).text() != allResults([][]int{}, 3, []api.Split{}).text() {
		t.Error("nil and empty lists differ")
	}
}

// TestNewMemory: R5: the rows of a result share no memory, nor do its sets.
func TestNewMemory(t *testing.T) {
	d := metric(4, 1, 2, 1, 1, 2, 1)
	low := belowOf(t, d)
	for i := range low {
		low[i] = append(low[i], -1)
		for j := range low[i] {
			low[i][j] = -1 - i
		}
	}
	for i, row := range low {
		if slices.Max(row) != -1-i || d[i][(i+1)%4] != 1 {
			t.Errorf("Below: %v, %v", low, d)
		}
	}
	far := distancesOf(t, 4, []api.Split{splitOf("1", 1)})
	far[0][1] = "9"
	if far[1][0] != "1" {
		t.Errorf("Distances: %v", far)
	}
	splits := splitsOf(t, Join, d)
	for i, s := range splits {
		_ = append(s.Set, 9)
		s.Set[0] = -i
	}
	for i, s := range splits {
		if s.Set[0] != -i || slices.Contains(s.Set[1:], 9) {
			t.Errorf("Join: %v", splits)
		}
	}
}
