package hide

import (
	"math"
	"math/rand"
	"slices"
	"testing"

	"pommel/api"
)

// painted decides by painting each unit of a small area whether squares are a cut.
func painted(squares []api.Square) (int, int, bool) {
	width, height := extent(squares)
	times := map[api.Pair]int{}
	for _, s := range squares {
		for i := range s.Size {
			for j := range s.Size {
				times[api.Pair{A: s.X + i, B: s.Y + j}]++
			}
		}
	}
	for x := range width {
		for y := range height {
			if times[api.Pair{A: x, B: y}] != 1 {
				return 0, 0, false
			}
		}
	}
	return width, height, len(squares) > 0
}

func TestExample(t *testing.T) {
	squares := []api.Square{{X: 0, Y: 0, Size: 2}, {X: 2, Y: 0, Size: 1}, {X: 2, Y: 1, Size: 1}}
	if w, h, e := Measure(squares); e != api.OK || w != 3 || h != 2 {
		t.Errorf("Measure = %d, %d, %d", w, h, e)
	}
	if c, e := Code(squares); e != api.OK || !slices.Equal(c, []int{2, 1, 1}) {
		t.Errorf("Code = %v, %d", c, e)
	}
	n, wires, e := Network(squares)
	if e != api.OK || n != 3 || !slices.Equal(wires, []api.Pair{{A: 0, B: 2}, {A: 0, B: 1}, {A: 1, B: 2}}) {
		t.Errorf("Network = %d, %v, %d", n, wires, e)
	}
	if c, e := Currents(n, wires); e != api.OK || !slices.Equal(c, []api.Num{"2", "1", "1"}) {
		t.Errorf("Currents = %v, %d", c, e)
	}
	if c, e := Resistance(n, wires); e != api.OK || c != "2/3" {
		t.Errorf("Resistance = %s, %d", c, e)
	}
	if c, e := Compound(squares); e != api.OK || !slices.Equal(c, []int{1, 2}) {
		t.Errorf("Compound = %v, %d", c, e)
	}
	if p, e := Perfect(squares); e != api.OK || p {
		t.Errorf("Perfect = %t, %d", p, e)
	}
}

func TestMeasure(t *testing.T) {
	cases := []struct {
		squares       []api.Square
		width, height int
	}{
		{[]api.Square{{Size: 1}}, 1, 1},
		{[]api.Square{{Size: api.MaxSide}}, api.MaxSide, api.MaxSide},
		{[]api.Square{{X: 500, Y: 500, Size: 500}, {Size: 500}, {X: 500, Size: 500}, {Y: 500, Size: 500}}, 1000, 1000},
		{row(api.MaxSquares), 24, 1},
		{turned(row(api.MaxSquares)), 1, 24},
		{mustLay(t, 32, code32()), 32, 33},
		{mustLay(t, 112, code112()), 112, 112},
		{mustLay(t, 175, code175()), 175, 175},
	}
	for _, c := range cases {
		if w, h, e := Measure(c.squares); e != api.OK || w != c.width || h != c.height {
			t.Errorf("Measure(%v) = %d, %d, %d", c.squares, w, h, e)
		}
	}
}

// TestForm compares Measure with painting, of cuts of which one square is moved, left out, doubled or resized.
func TestForm(t *testing.T) {
	r := rand.New(rand.NewSource(1))
	counts := map[bool]int{}
	for range 4000 {
		squares := smallCut(r, api.MaxSquares-1)
		i := r.Intn(len(squares))
		switch r.Intn(6) {
		case 0:
			squares[i].X = max(0, squares[i].X+r.Intn(3)-1)
		case 1:
			squares[i].Y = max(0, squares[i].Y+r.Intn(3)-1)
		case 2:
			squares[i].Size = max(1, squares[i].Size+r.Intn(3)-1)
		case 3:
			squares = slices.Delete(squares, i, i+1)
		case 4:
			squares = append(squares, squares[i])
		}
		width, height, ok := painted(squares)
		counts[ok]++
		want := api.OK
		if !ok {
			want = api.ErrForm
		}
		if w, h, e := Measure(squares); e != want || w != width || h != height {
			t.Fatalf("Measure(%v) = %d, %d, %d, want %d, %d, %d", squares, w, h, e, width, height, want)
		}
	}
	if counts[true] < 500 || counts[false] < 500 {
		t.Fatalf("the cases are one-sided: %v", counts)
	}
}

// TestOrder: H1, for squares in any order; the results do not depend on it.
func TestOrder(t *testing.T) {
	for _, squares := range someCuts(t, 2, 1500, api.MaxSquares) {
		width, height, e := Measure(squares)
		if w, h := extent(squares); e != api.OK || w != width || h != height {
			t.Fatalf("Measure(%v) = %d, %d, %d", squares, width, height, e)
		}
		ordered := sorted(squares)
		code, e := Code(squares)
		if e != api.OK || len(code) != len(squares) {
			t.Fatalf("Code(%v) = %v, %d", squares, code, e)
		}
		for i, s := range ordered {
			if code[i] != s.Size {
				t.Fatalf("Code(%v) = %v", squares, code)
			}
		}
		if again, e := Lay(width, code); e != api.OK || !slices.Equal(again, ordered) {
			t.Fatalf("Lay(%d, %v) = %v, %d, want %v", width, code, again, e, ordered)
		}
		n, wires, _ := Network(squares)
		m, others, _ := Network(ordered)
		part, e := Compound(squares)
		other, f := Compound(ordered)
		if n != m || !slices.Equal(wires, others) || e != f || !slices.Equal(part, other) {
			t.Fatalf("%v: the order of the squares changes a result", squares)
		}
	}
}

func TestPerfect(t *testing.T) {
	cases := []struct {
		squares []api.Square
		want    bool
	}{
		{[]api.Square{{Size: 1}}, true},
		{[]api.Square{{Size: api.MaxSide}}, true},
		{row(2), false},
		{mustLay(t, 32, code32()), true},
		{mustLay(t, 112, code112()), true},
		{mustLay(t, 175, code175()), true},
		{scaled(mustLay(t, 175, code175()), 5), true},
		{[]api.Square{{X: 2, Y: 1, Size: 1}, {Size: 2}, {X: 2, Y: 0, Size: 1}}, false},
	}
	for _, c := range cases {
		if p, e := Perfect(c.squares); e != api.OK || p != c.want {
			t.Errorf("Perfect(%v) = %t, %d", c.squares, p, e)
		}
	}
	for _, squares := range someCuts(t, 3, 300, api.MaxSquares) {
		sizes := map[int]bool{}
		for _, s := range squares {
			sizes[s.Size] = true
		}
		if p, e := Perfect(squares); e != api.OK || p != (len(sizes) == len(squares)) {
			t.Fatalf("Perfect(%v) = %t, %d", squares, p, e)
		}
	}
}

// leastPartByHand tries all sets of squares.
func leastPartByHand(squares []api.Square) []int {
	squares = sorted(squares)
	var least []int
	for set := range 1 << len(squares) {
		var part []int
		left, top, right, bottom, area := math.MaxInt, math.MaxInt, 0, 0, 0
		for i, s := range squares {
			if set>>i&1 == 1 {
				part = append(part, i)
				left, top = min(left, s.X), min(top, s.Y)
				right, bottom = max(right, s.X+s.Size), max(bottom, s.Y+s.Size)
				area += s.Size * s.Size
			}
		}
		if len(part) < 2 || len(part) == len(squares) || area != (right-left)*(bottom-top) {
			continue
		}
		if least == nil || len(part) < len(least) || len(part) == len(least) && slices.Compare(part, least) < 0 {
			least = part
		}
	}
	return least
}

// TestCompound: P3.
func TestCompound(t *testing.T) {
	simple, compound := 0, 0
	for _, squares := range someCuts(t, 4, 600, 11) {
		want, err := leastPartByHand(squares), api.OK
		if want == nil {
			err = api.ErrNone
			simple++
		} else {
			compound++
		}
		if part, e := Compound(squares); e != err || !slices.Equal(part, want) {
			t.Fatalf("Compound(%v) = %v, %d, want %v", squares, part, e, want)
		}
	}
	if simple < 20 || compound < 200 {
		t.Fatalf("%d simple cuts and %d compound ones", simple, compound)
	}
}

func TestCompoundKnown(t *testing.T) {
	cases := []struct {
		width int
		code  []int
		want  []int
	}{
		{1, []int{1}, nil},
		{2, []int{1, 1}, nil},
		{1, []int{1, 1}, nil},
		{3, []int{1, 1, 1}, []int{0, 1}},
		{2, []int{1, 1, 1, 1}, []int{0, 1}},
		{2, []int{2, 1, 1}, []int{1, 2}},
		{32, code32(), nil},
		{112, code112(), nil},
		{175, code175(), []int{0, 1, 3, 4, 5, 6, 7, 8, 9, 10, 11, 12, 13}},
		{5, []int{2, 3, 1, 1, 3, 2, 1, 1}, []int{2, 3}},
		{6, []int{4, 2, 2, 2, 4, 2}, []int{1, 2}},
		{5, []int{2, 1, 2, 1, 5}, []int{1, 3}},
	}
	for _, c := range cases {
		err := api.OK
		if c.want == nil {
			err = api.ErrNone
		}
		if part, e := Compound(mustLay(t, c.width, c.code)); e != err || !slices.Equal(part, c.want) {
			t.Errorf("Compound of %v = %v, %d, want %v", c.code, part, e, c.want)
		}
	}
}

// TestMirrored: H6, and that what Compound returns is a rectangle (P2).
func TestMirrored(t *testing.T) {
	for _, squares := range someCuts(t, 5, 800, api.MaxSquares) {
		part, e := Compound(squares)
		if e == api.ErrNone && len(part) == 0 {
			continue
		}
		if e != api.OK || len(part) < 2 || len(part) >= len(squares) || !slices.IsSorted(part) {
			t.Fatalf("Compound(%v) = %v, %d", squares, part, e)
		}
		ordered := sorted(squares)
		left, top, right, bottom := math.MaxInt, math.MaxInt, 0, 0
		for _, i := range part {
			s := ordered[i]
			left, top = min(left, s.X), min(top, s.Y)
			right, bottom = max(right, s.X+s.Size), max(bottom, s.Y+s.Size)
		}
		width, height, _ := Measure(squares)
		sideways, upsideDown := slices.Clone(ordered), slices.Clone(ordered)
		for _, i := range part {
			s := ordered[i]
			sideways[i].X = left + right - s.X - s.Size
			upsideDown[i].Y = top + bottom - s.Y - s.Size
		}
		for _, mirrored := range [][]api.Square{sideways, upsideDown} {
			if w, h, e := Measure(mirrored); e != api.OK || w != width || h != height {
				t.Fatalf("%v with %v mirrored: Measure = %d, %d, %d", squares, part, w, h, e)
			}
		}
	}
}

// checkRefused checks the error of all functions of cuts, and that their other results are zero values (R3).
func checkRefused(t *testing.T, squares []api.Square, want api.Errno) {
	t.Helper()
	if w, h, e := Measure(squares); e != want || w != 0 || h != 0 {
		t.Errorf("Measure(%v) = %d, %d, %d, want %d", squares, w, h, e, want)
	}
	if c, e := Code(squares); e != want || len(c) != 0 {
		t.Errorf("Code(%v) = %v, %d, want %d", squares, c, e, want)
	}
	if n, wires, e := Network(squares); e != want || n != 0 || len(wires) != 0 {
		t.Errorf("Network(%v) = %d, %v, %d, want %d", squares, n, wires, e, want)
	}
	if c, e := Compound(squares); e != want || len(c) != 0 {
		t.Errorf("Compound(%v) = %v, %d, want %d", squares, c, e, want)
	}
	if p, e := Perfect(squares); e != want || p {
		t.Errorf("Perfect(%v) = %t, %d, want %d", squares, p, e, want)
	}
}

func TestCutErrors(t *testing.T) {
	no := api.Square{X: -1, Y: 0, Size: 1}
	long := row(api.MaxSquares + 1)
	checkRefused(t, long, api.ErrLong)
	checkRefused(t, append(row(api.MaxSquares), no), api.ErrLong)                // R2: before ErrArg
	checkRefused(t, append(row(api.MaxSquares), api.Square{}), api.ErrLong)      // R2
	checkRefused(t, append(row(api.MaxSquares), row(1)...), api.ErrLong)         // R2: before ErrForm
	checkRefused(t, make([]api.Square, api.MaxSquares+1), api.ErrLong)           // R2
	checkRefused(t, make([]api.Square, api.MaxSquares), api.ErrArg)              // sizes of 0
	checkRefused(t, []api.Square{{Size: 1}, {Size: 1}, {Size: 0}}, api.ErrArg)   // R2: before ErrForm
	checkRefused(t, []api.Square{{X: 5, Y: 5, Size: 1}, no}, api.ErrArg)         // R2
	checkRefused(t, append(row(api.MaxSquares-1), row(1)...), api.ErrForm)       // as many squares as may be
	checkRefused(t, []api.Square{{X: 999, Y: 999, Size: 1}}, api.ErrForm)        // in range
	checkRefused(t, []api.Square{{Size: 1000}, {Size: 1000}}, api.ErrForm)       // the same one twice
	checkRefused(t, []api.Square{{Size: 2}, {X: 1, Y: 1, Size: 2}}, api.ErrForm) // overlap
	out := []api.Square{
		no, {X: 0, Y: -1, Size: 1}, {X: 0, Y: 0, Size: 0}, {X: 0, Y: 0, Size: -1}, {X: 1, Y: 1, Size: -1}, {X: 0, Y: 0, Size: api.MaxSide + 1},
		{X: 1, Y: 0, Size: api.MaxSide}, {X: 0, Y: 1, Size: api.MaxSide}, {X: api.MaxSide, Y: 0, Size: 1}, {X: 0, Y: api.MaxSide, Size: 1},
		{X: math.MaxInt, Y: 0, Size: 1}, {X: 0, Y: math.MaxInt, Size: 1}, {X: 0, Y: 0, Size: math.MaxInt}, {X: 1, Y: 1, Size: math.MaxInt},
		{X: math.MinInt, Y: 0, Size: 1}, {X: 0, Y: math.MinInt, Size: 1}, {X: 0, Y: 0, Size: math.MinInt}, {X: -1, Y: -1, Size: math.MinInt},
		{X: math.MinInt, Y: math.MinInt, Size: math.MinInt}, {X: math.MaxInt, Y: math.MaxInt, Size: math.MaxInt}, {X: -2, Y: 0, Size: 3},
	}
	for _, s := range out {
		checkRefused(t, []api.Square{s}, api.ErrArg)
		checkRefused(t, []api.Square{{Size: 1}, s}, api.ErrArg)
		checkRefused(t, []api.Square{s, {Size: 1}}, api.ErrArg)
	}
	noCuts := [][]api.Square{
		nil, {}, // no squares
		{{X: 1, Size: 1}}, {{Y: 1, Size: 1}}, {{X: 1, Y: 1, Size: 1}}, {{X: 1, Size: 1}, {X: 2, Size: 1}}, // not from 0, 0 on
		{{Size: 1}, {X: 2, Size: 1}}, {{Size: 1}, {Y: 2, Size: 1}}, {{Size: 1}, {X: 1, Y: 1, Size: 1}}, // gaps
		{{Size: 2}, {X: 2, Size: 1}}, {{Size: 1}, {X: 1, Size: 2}}, // no rectangles
		{{Size: 1}, {Size: 1}}, {{Size: 2}, {Size: 1}}, {{Size: 1}, {Size: 2}}, {{Size: 2}, {X: 1, Size: 2}}, // overlaps
		{{Size: 3}, {X: 1, Y: 1, Size: 1}},                  // one inside another one
		{{Size: 2}, {X: 1, Y: 1, Size: 2}, {X: 2, Size: 1}}, // the area is that of the rectangle, but not its points
	}
	for _, squares := range noCuts {
		checkRefused(t, squares, api.ErrForm)
	}
}

// TestOverlapWithGap: squares that have just the area of their rectangle, but overlap and leave a gap.
func TestOverlapWithGap(t *testing.T) {
	squares := []api.Square{{Size: 1}, {Size: 1}, {X: 0, Y: 1, Size: 1}, {X: 1, Y: 1, Size: 1}}
	if _, _, ok := painted(squares); ok {
		t.Fatal("a cut")
	}
	checkRefused(t, squares, api.ErrForm)
}

// TestCutArguments: R5, R6 and P6.
func TestCutArguments(t *testing.T) {
	r := rand.New(rand.NewSource(6))
	for _, squares := range someCuts(t, 6, 200, api.MaxSquares) {
		if r.Intn(4) == 0 {
			squares[0].Size = r.Intn(3)
		}
		before := slices.Clone(squares)
		code, e := Code(squares)
		n, wires, _ := Network(squares)
		part, _ := Compound(squares)
		Measure(squares)
		Perfect(squares)
		oldCode, oldWires, oldPart := slices.Clone(code), slices.Clone(wires), slices.Clone(part)
		clear(code[:cap(code)])
		clear(wires[:cap(wires)])
		clear(part[:cap(part)])
		code, f := Code(squares)
		m, wires, _ := Network(squares)
		part, _ = Compound(squares)
		if !slices.Equal(squares, before) || e != f || n != m || !slices.Equal(code, oldCode) || !slices.Equal(wires, oldWires) || !slices.Equal(part, oldPart) {
			t.Fatalf("%v: arguments were changed, results share memory, or they differ", before)
		}
	}
}
