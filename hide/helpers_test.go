package hide

import (
	"math/big"
	"math/rand"
	"slices"
	"strings"
	"testing"

	"pommel/api"
)

// code112 is the perfect square with the fewest squares (Duijvestijn), code175 a compound perfect one (Willcocks).
func code112() []int {
	return []int{50, 35, 27, 8, 19, 15, 17, 11, 6, 24, 29, 25, 9, 2, 7, 18, 16, 42, 4, 37, 33}
}

func code175() []int {
	return []int{55, 39, 81, 16, 9, 14, 4, 5, 3, 1, 20, 56, 18, 38, 30, 51, 64, 31, 29, 8, 43, 2, 35, 33}
}

// code32 is the cut of the document's examples.
func code32() []int { return []int{18, 14, 4, 10, 15, 7, 1, 9, 8} }

func mustLay(t *testing.T, width int, sizes []int) []api.Square {
	t.Helper()
	squares, e := Lay(width, sizes)
	if e != api.OK {
		t.Fatalf("Lay(%d, %v) = %v, %d", width, sizes, squares, e)
	}
	return squares
}

// row returns unit squares beside each other.
func row(n int) []api.Square {
	var squares []api.Square
	for x := range n {
		squares = append(squares, api.Square{X: x, Size: 1})
	}
	return squares
}

// filled returns a random cut of a rectangle of that size, in any order of its squares.
func filled(r *rand.Rand, width, height int) []api.Square {
	taken := make([][]bool, height)
	for y := range taken {
		taken[y] = make([]bool, width)
	}
	var squares []api.Square
	for y := range height {
		for x := range width {
			if taken[y][x] {
				continue
			}
			room := 1
			for room < min(height-y, width-x) && !taken[y][x+room] {
				room++
			}
			size := r.Intn(room) + 1
			for i := range size {
				for j := range size {
					taken[y+i][x+j] = true
				}
			}
			squares = append(squares, api.Square{X: x, Y: y, Size: size})
		}
	}
	r.Shuffle(len(squares), func(i, j int) { squares[i], squares[j] = squares[j], squares[i] })
	return squares
}

// smallCut returns a random cut of a small rectangle.
func smallCut(r *rand.Rand, most int) []api.Square {
	for {
		if squares := filled(r, r.Intn(7)+1, r.Intn(7)+1); len(squares) <= most {
			return squares
		}
	}
}

func turned(squares []api.Square) []api.Square {
	var out []api.Square
	for _, s := range squares {
		out = append(out, api.Square{X: s.Y, Y: s.X, Size: s.Size})
	}
	return out
}

func scaled(squares []api.Square, by int) []api.Square {
	var out []api.Square
	for _, s := range squares {
		out = append(out, api.Square{X: s.X * by, Y: s.Y * by, Size: s.Size * by})
	}
	return out
}

// extent returns how far the squares reach to the right and down.
func extent(squares []api.Square) (int, int) {
	width, height := 0, 0
	for _, s := range squares {
		width, height = max(width, s.X+s.Size), max(height, s.Y+s.Size)
	}
	return width, height
}

func gcd(a, b int) int {
	for b != 0 {
		a, b = b, a%b
	}
	return max(a, -a)
}

// joined puts a cut beside another one, both scaled to the same height.
func joined(a, b []api.Square) []api.Square {
	width, height := extent(a)
	_, other := extent(b)
	common := gcd(height, other)
	out := scaled(a, other/common)
	for _, s := range scaled(b, height/common) {
		s.X += width * other / common
		out = append(out, s)
	}
	return out
}

// someCut returns a small cut, or one of joined cuts, with up to most squares.
func someCut(r *rand.Rand, most int) []api.Square {
	cut := smallCut(r, most)
	for range r.Intn(4) {
		next := joined(cut, smallCut(r, most))
		if r.Intn(2) == 0 {
			next = turned(next)
		}
		if width, height := extent(next); len(next) <= most && max(width, height) <= api.MaxSide {
			cut = next
		}
	}
	r.Shuffle(len(cut), func(i, j int) { cut[i], cut[j] = cut[j], cut[i] })
	return cut
}

// knownCuts are cuts that are known from books, or at the ends of what is valid.
func knownCuts(t *testing.T) [][]api.Square {
	t.Helper()
	grid := []api.Square{{X: 0, Y: 0, Size: 1}, {X: 1, Y: 0, Size: 1}, {X: 0, Y: 1, Size: 1}, {X: 1, Y: 1, Size: 1}}
	return [][]api.Square{
		{{Size: 1}}, {{Size: api.MaxSide}}, row(2), row(api.MaxSquares), turned(row(api.MaxSquares)), grid, scaled(grid, api.MaxSide/2),
		{{X: 0, Y: 0, Size: 2}, {X: 2, Y: 0, Size: 1}, {X: 2, Y: 1, Size: 1}},
		mustLay(t, 32, code32()), mustLay(t, 112, code112()), mustLay(t, 175, code175()), scaled(mustLay(t, 175, code175()), 5),
	}
}

// someCuts returns known cuts and random ones.
func someCuts(t *testing.T, seed int64, count, most int) [][]api.Square {
	t.Helper()
	r := rand.New(rand.NewSource(seed))
	cuts := slices.DeleteFunc(knownCuts(t), func(c []api.Square) bool { return len(c) > most })
	for range count {
		cuts = append(cuts, someCut(r, most))
	}
	return cuts
}

// sorted returns the squares in order.
func sorted(squares []api.Square) []api.Square {
	out := slices.Clone(squares)
	for i := range out {
		for j := range out[:i] {
			if out[i].Y < out[j].Y || out[i].Y == out[j].Y && out[i].X < out[j].X {
				out[i], out[j] = out[j], out[i]
			}
		}
	}
	return out
}

// rat reads a Num without the program's own reader, and checks that it is in lowest terms.
func rat(t *testing.T, n api.Num) *big.Rat {
	t.Helper()
	x, ok := new(big.Rat).SetString(string(n))
	if !ok || strings.TrimSuffix(x.String(), "/1") != string(n) {
		t.Fatalf("not a Num: %q", n)
	}
	return x
}

// whole reads an integer.
func whole(t *testing.T, n api.Num) int {
	t.Helper()
	x := rat(t, n)
	if !x.IsInt() || !x.Num().IsInt64() {
		t.Fatalf("not an integer: %q", n)
	}
	return int(x.Num().Int64())
}

// trees counts the spanning trees of a network by the determinant of Kirchhoff's matrix.
func trees(n int, wires []api.Pair) *big.Rat {
	m := make([][]*big.Rat, n)
	for i := range m {
		m[i] = make([]*big.Rat, n)
		for j := range m[i] {
			m[i][j] = new(big.Rat)
		}
	}
	add := func(i, j int, x int64) { m[i][j].Add(m[i][j], big.NewRat(x, 1)) }
	for _, w := range wires {
		add(w.A, w.A, 1)
		add(w.B, w.B, 1)
		add(w.A, w.B, -1)
		add(w.B, w.A, -1)
	}
	count := big.NewRat(1, 1)
	for i := range n - 1 {
		pivot := m[i][i]
		if pivot.Sign() == 0 { // what is left of the matrix has no negative direction, so its row is 0
			return pivot
		}
		count.Mul(count, pivot)
		for j := i + 1; j < n-1; j++ {
			times := new(big.Rat).Quo(m[j][i], pivot)
			for k := i; k < n-1; k++ {
				m[j][k].Sub(m[j][k], new(big.Rat).Mul(times, m[i][k]))
			}
		}
	}
	return count
}
