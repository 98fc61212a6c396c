package hide

import (
	"math"
	"math/rand"
	"slices"
	"testing"

	"pommel/api"
)

func TestLay(t *testing.T) {
	cases := []struct {
		width int
		sizes []int
		want  []api.Square
	}{
		{1, []int{1}, []api.Square{{Size: 1}}},
		{3, []int{2, 1, 1}, []api.Square{{X: 0, Y: 0, Size: 2}, {X: 2, Y: 0, Size: 1}, {X: 2, Y: 1, Size: 1}}},
		{3, []int{1, 2, 1}, []api.Square{{X: 0, Y: 0, Size: 1}, {X: 1, Y: 0, Size: 2}, {X: 0, Y: 1, Size: 1}}},
		{32, code32(), []api.Square{
			{X: 0, Y: 0, Size: 18}, {X: 18, Y: 0, Size: 14}, {X: 18, Y: 14, Size: 4}, {X: 22, Y: 14, Size: 10}, {X: 0, Y: 18, Size: 15},
			{X: 15, Y: 18, Size: 7}, {X: 22, Y: 24, Size: 1}, {X: 23, Y: 24, Size: 9}, {X: 15, Y: 25, Size: 8}}},
		{api.MaxSide, []int{api.MaxSide}, []api.Square{{Size: api.MaxSide}}},
		{500, []int{500, 500}, []api.Square{{Size: 500}, {Y: 500, Size: 500}}}, // just to MaxSide
	}
	for _, c := range cases {
		if squares, e := Lay(c.width, c.sizes); e != api.OK || !slices.Equal(squares, c.want) {
			t.Errorf("Lay(%d, %v) = %v, %d, want %v", c.width, c.sizes, squares, e, c.want)
		}
	}
	squares := mustLay(t, 32, code32())
	if w, h, e := Measure(squares); e != api.OK || w != 32 || h != 33 {
		t.Errorf("Measure = %d, %d, %d", w, h, e)
	}
	if p, e := Perfect(squares); e != api.OK || !p {
		t.Errorf("Perfect = %t, %d", p, e)
	}
	if l := mustLay(t, api.MaxSquares, slices.Repeat([]int{1}, api.MaxSquares)); !slices.Equal(l, row(api.MaxSquares)) {
		t.Errorf("Lay of a row = %v", l)
	}
	if l := mustLay(t, 1, slices.Repeat([]int{1}, api.MaxSquares)); !slices.Equal(l, turned(row(api.MaxSquares))) {
		t.Errorf("Lay of a column = %v", l)
	}
}

func TestLayErrors(t *testing.T) {
	ones := slices.Repeat([]int{1}, api.MaxSquares+1)
	cases := []struct {
		width int
		sizes []int
		want  api.Errno
	}{
		{25, ones, api.ErrLong}, {0, ones, api.ErrLong}, {-1, make([]int, 25), api.ErrLong}, {24, append(ones[:24:24], 0), api.ErrLong},
		{1, nil, api.ErrArg}, {1, []int{}, api.ErrArg}, {0, nil, api.ErrArg},
		{0, []int{1}, api.ErrArg}, {-1, []int{1}, api.ErrArg}, {1001, []int{1000}, api.ErrArg}, {math.MaxInt, []int{1}, api.ErrArg}, {math.MinInt, []int{1}, api.ErrArg},
		{1, []int{0}, api.ErrArg}, {1, []int{-1}, api.ErrArg}, {1, []int{1001}, api.ErrArg}, {1, []int{math.MaxInt}, api.ErrArg}, {1, []int{math.MinInt}, api.ErrArg},
		{1, []int{2, 0}, api.ErrArg}, {2, []int{3, 1001}, api.ErrArg}, {2, []int{1, 2, -1}, api.ErrArg}, // R2: before ErrNone
		{1, []int{2}, api.ErrNone}, {2, []int{1, 2}, api.ErrNone}, {3, []int{2, 2}, api.ErrNone}, // beyond the width
		{4, []int{1, 2, 1, 2}, api.ErrNone}, {3, []int{1, 2, 2}, api.ErrNone}, {5, []int{2, 1, 2, 2}, api.ErrNone}, // over a column with a greater floor
		{2, []int{1}, api.ErrNone}, {3, []int{1, 2}, api.ErrNone}, {3, []int{2, 1}, api.ErrNone}, {1000, []int{999}, api.ErrNone}, // an uneven floor
		{501, []int{501, 500}, api.ErrNone}, {501, []int{501, 501}, api.ErrNone}, {1, []int{1, 1000}, api.ErrNone},
		{500, []int{500, 500, 500}, api.ErrNone}, {1000, []int{1000, 1000}, api.ErrNone}, // below MaxSide
	}
	for _, c := range cases {
		if squares, e := Lay(c.width, c.sizes); e != c.want || len(squares) != 0 {
			t.Errorf("Lay(%d, %v) = %v, %d, want %d", c.width, c.sizes, squares, e, c.want)
		}
	}
}

// layByHand follows the chapter column by column.
func layByHand(width int, sizes []int) ([]api.Square, bool) {
	floors := make([]int, width)
	var squares []api.Square
	for _, size := range sizes {
		x := slices.Index(floors, slices.Min(floors))
		y := floors[x]
		if x+size > width || y+size > api.MaxSide || slices.Max(floors[x:x+size]) > y {
			return nil, false
		}
		for i := x; i < x+size; i++ {
			floors[i] = y + size
		}
		squares = append(squares, api.Square{X: x, Y: y, Size: size})
	}
	return squares, slices.Min(floors) == slices.Max(floors)
}

// TestLayAny: what Lay returns of any sizes is a cut of that width, whose code they are.
func TestLayAny(t *testing.T) {
	r := rand.New(rand.NewSource(21))
	counts := map[bool]int{}
	for range 20000 {
		width := r.Intn(6) + 1
		sizes := make([]int, r.Intn(6)+1)
		for i := range sizes {
			sizes[i] = r.Intn(3) + 1
		}
		if r.Intn(4) == 0 {
			sizes, _ = Code(smallCut(r, api.MaxSquares))
		}
		want, ok := layByHand(width, sizes)
		counts[ok]++
		squares, e := Lay(width, sizes)
		if !ok {
			if e != api.ErrNone || len(squares) != 0 {
				t.Fatalf("Lay(%d, %v) = %v, %d", width, sizes, squares, e)
			}
			continue
		}
		code, f := Code(squares)
		w, _, _ := Measure(squares)
		if e != api.OK || f != api.OK || w != width || !slices.Equal(squares, want) || !slices.Equal(code, sizes) {
			t.Fatalf("Lay(%d, %v) = %v, %d, its code %v, %d", width, sizes, squares, e, code, f)
		}
	}
	if counts[true] < 500 || counts[false] < 500 {
		t.Fatalf("the cases are one-sided: %v", counts)
	}
}

// hand cuts a rectangle in all ways that could be better than the best one so far.
type hand struct {
	taken [api.MaxFloor][api.MaxFloor]bool // by Y and X
	width int
	high  int
	code  []int
	best  []int
}

func (h *hand) free() (int, int, bool) {
	for y := range h.high {
		for x := range h.width {
			if !h.taken[y][x] {
				return x, y, true
			}
		}
	}
	return 0, 0, false
}

func (h *hand) mark(x, y, size int, taken bool) {
	for i := range size {
		for j := range size {
			h.taken[y+i][x+j] = taken
		}
	}
}

func (h *hand) search() {
	x, y, open := h.free()
	if !open {
		if len(h.code) < len(h.best) || slices.Compare(h.code, h.best) < 0 {
			h.best = slices.Clone(h.code)
		}
		return
	}
	if len(h.code) == len(h.best) {
		return
	}
	for size := min(h.width-x, h.high-y); size >= 1; size-- {
		if slices.Contains(h.taken[y][x:x+size], true) {
			continue
		}
		h.mark(x, y, size, true)
		h.code = append(h.code, size)
		h.search()
		h.code = h.code[:len(h.code)-1]
		h.mark(x, y, size, false)
	}
}

// TestFewest: H5 and P3, for all rectangles.
func TestFewest(t *testing.T) {
	for width := 1; width <= api.MaxFloor; width++ {
		for height := 1; height <= api.MaxFloor; height++ {
			code, e := Fewest(width, height)
			euclid, f := Euclid(width, height)
			if e != api.OK || f != api.OK || len(code) > len(euclid) {
				t.Fatalf("Fewest(%d, %d) = %v, %d, Euclid %v, %d", width, height, code, e, euclid, f)
			}
			area := 0
			for _, size := range code {
				area += size * size
			}
			w, h, _ := Measure(mustLay(t, width, code))
			if w != width || h != height || area != width*height {
				t.Fatalf("Fewest(%d, %d) = %v", width, height, code)
			}
			hand := hand{width: width, high: height, best: slices.Repeat([]int{math.MaxInt}, len(euclid))}
			hand.search()
			if !slices.Equal(code, hand.best) {
				t.Fatalf("Fewest(%d, %d) = %v, want %v", width, height, code, hand.best)
			}
		}
	}
}

// TestFewestKnown compares with the counts that are known (OEIS A219158), and the document's examples.
func TestFewestKnown(t *testing.T) {
	counts := [][]int{
		{1}, {2, 1}, {3, 3, 1}, {4, 2, 4, 1}, {5, 4, 4, 5, 1}, {6, 3, 2, 3, 5, 1}, {7, 5, 5, 5, 5, 5, 1}, {8, 4, 5, 2, 5, 4, 7, 1}, {9, 6, 3, 6, 6, 3, 6, 7, 1},
	}
	for i, row := range counts {
		for j, count := range row {
			a, e := Fewest(i+1, j+1)
			b, f := Fewest(j+1, i+1)
			if e != api.OK || f != api.OK || len(a) != count || len(b) != count {
				t.Errorf("Fewest(%d, %d) = %v, %d, turned %v, %d, want %d squares", i+1, j+1, a, e, b, f, count)
			}
		}
	}
	if code, e := Fewest(2, 3); e != api.OK || !slices.Equal(code, []int{1, 1, 2}) {
		t.Errorf("Fewest(2, 3) = %v, %d", code, e)
	}
	if code, e := Fewest(3, 2); e != api.OK || !slices.Equal(code, []int{1, 2, 1}) {
		t.Errorf("Fewest(3, 2) = %v, %d", code, e)
	}
}

func TestEuclid(t *testing.T) {
	cases := []struct {
		width, height int
		want          []int
	}{
		{5, 6, []int{5, 1, 1, 1, 1, 1}},
		{6, 5, []int{5, 1, 1, 1, 1, 1}},
		{1, 1, []int{1}},
		{1000, 1000, []int{1000}},
		{1000, 500, []int{500, 500}},
		{8, 3, []int{3, 3, 2, 1, 1}},
		{3, 8, []int{3, 3, 2, 1, 1}},
		{32, 33, nil},
		{1, 24, slices.Repeat([]int{1}, 24)},
		{24, 1, slices.Repeat([]int{1}, 24)},
		{1, 25, nil}, // one more than MaxSquares
		{25, 1, nil},
		{1, 1000, nil},
		{23, 24, append([]int{23}, slices.Repeat([]int{1}, 23)...)},
		{24, 25, nil},
		{987, 610, []int{610, 377, 233, 144, 89, 55, 34, 21, 13, 8, 5, 3, 2, 1, 1}},
	}
	for _, c := range cases {
		want := api.OK
		if c.want == nil {
			want = api.ErrLong
		}
		if sizes, e := Euclid(c.width, c.height); e != want || !slices.Equal(sizes, c.want) {
			t.Errorf("Euclid(%d, %d) = %v, %d, want %v", c.width, c.height, sizes, e, c.want)
		}
	}
}

func TestSideErrors(t *testing.T) {
	for _, x := range []int{math.MinInt, -1000, -1, 0, 10, 1000, 1001, math.MaxInt} {
		for _, y := range []int{math.MinInt, -1, 0, 1, 9, 10, 1000, 1001, math.MaxInt} {
			for _, s := range [][2]int{{x, y}, {y, x}} {
				if code, e := Fewest(s[0], s[1]); e != api.ErrArg || len(code) != 0 {
					t.Errorf("Fewest(%d, %d) = %v, %d", s[0], s[1], code, e)
				}
				inside := min(x, y) >= 1 && max(x, y) <= api.MaxSide
				if code, e := Euclid(s[0], s[1]); (e == api.ErrArg) == inside || e != api.OK && len(code) != 0 {
					t.Errorf("Euclid(%d, %d) = %v, %d", s[0], s[1], code, e)
				}
			}
		}
	}
}

// TestCodeArguments: R5, R6 and P6.
func TestCodeArguments(t *testing.T) {
	code := code112()
	squares := mustLay(t, 112, code)
	old := slices.Clone(squares)
	clear(squares[:cap(squares)])
	if squares = mustLay(t, 112, code); !slices.Equal(squares, old) || !slices.Equal(code, code112()) {
		t.Error("Lay changes its arguments, its results share memory, or they differ")
	}
	fewest, _ := Fewest(8, 9)
	euclid, _ := Euclid(8, 9)
	oldFewest, oldEuclid := slices.Clone(fewest), slices.Clone(euclid)
	clear(fewest[:cap(fewest)])
	clear(euclid[:cap(euclid)])
	fewest, _ = Fewest(8, 9)
	euclid, _ = Euclid(8, 9)
	if !slices.Equal(fewest, oldFewest) || !slices.Equal(euclid, oldEuclid) {
		t.Error("results share memory, or differ")
	}
}
