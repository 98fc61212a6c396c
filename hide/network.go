package hide

import (
	"cmp"
	"slices"
	"strconv"

	"pommel/api"
	"pommel/exact"
)

// line is a horizontal segment.
type line struct {
	y, from, to int
}

// lines returns the longest horizontal segments of edges, by Y and then by X: the nodes of the network.
func (c cut) lines() []line {
	var edges []line
	for _, s := range c.squares {
		right := s.X + s.Size
		edges = append(edges, line{s.Y, s.X, right}, line{s.Y + s.Size, s.X, right})
	}
	slices.SortFunc(edges, func(a, b line) int {
		return cmp.Or(cmp.Compare(a.y, b.y), cmp.Compare(a.from, b.from))
	})
	lines := edges[:1]
	for _, e := range edges[1:] {
		// Edges that only touch, where four squares meet in a point, are one segment, too.
		if last := &lines[len(lines)-1]; e.y == last.y && e.from <= last.to {
			last.to = max(last.to, e.to)
		} else {
			lines = append(lines, e)
		}
	}
	return lines
}

func (c cut) wires(lines []line) []api.Pair {
	var wires []api.Pair
	for _, s := range c.squares {
		wires = append(wires, api.Pair{A: lineAt(lines, s.X, s.Y), B: lineAt(lines, s.X, s.Y+s.Size)})
	}
	return wires
}

// lineAt returns the number of the segment on which an edge begins.
func lineAt(lines []line, x, y int) int {
	return slices.IndexFunc(lines, func(l line) bool {
		return l.y == y && l.from <= x && x < l.to
	})
}

func checkNetwork(n int, wires []api.Pair) api.Errno {
	if len(wires) > api.MaxWires {
		return api.ErrLong
	}
	if n < 2 || n > api.MaxNodes {
		return api.ErrArg
	}
	for _, w := range wires {
		if min(w.A, w.B) < 0 || max(w.A, w.B) >= n || w.A == w.B {
			return api.ErrArg
		}
	}
	if !isConnected(n, wires) {
		return api.ErrArg
	}
	return api.OK
}

func isConnected(n int, wires []api.Pair) bool {
	reached := make([]bool, n)
	reached[0] = true
	count := 1
	for range n {
		for _, w := range wires {
			if reached[w.A] != reached[w.B] {
				reached[w.A], reached[w.B] = true, true
				count++
			}
		}
	}
	return count == n
}

// potentials returns how much higher than the last node each node is if that much current
// goes through the network from node 0 to the last one.
func potentials(n int, wires []api.Pair) ([]int, int) {
	rows := equations(n, wires)
	through := eliminate(rows)
	heights := make([]int, n) // that of the last one stays 0
	for i, row := range rows {
		heights[i] = int(row[n-1])
	}
	return heights, int(through)
}

// equations returns, for each node but the last one, how much current leaves it
// as a sum of multiples of the potentials, and how much should: 1 at node 0.
func equations(n int, wires []api.Pair) [][]int64 {
	rows := make([][]int64, n)
	for i := range rows {
		rows[i] = make([]int64, n)
	}
	for _, w := range wires {
		rows[w.A][w.A]++
		rows[w.B][w.B]++
		rows[w.A][w.B]--
		rows[w.B][w.A]--
	}
	for _, row := range rows {
		row[n-1] = 0 // the last node has the potential 0, so its column is free for the right sides
	}
	rows[0][n-1] = 1
	return rows[:n-1]
}

// eliminate changes equations such that each has one unknown, with the same coefficient, which it returns.
//
// It divides without a remainder, as all numbers that arise are minors of the equations. These count sets of wires,
// so they are at most 2^24, and no product overflows. No pivot is 0: it counts ways to join nodes of a
// connected network.
func eliminate(rows [][]int64) int64 {
	before := int64(1)
	for i, by := range rows {
		pivot := by[i]
		for j, row := range rows {
			if i == j {
				continue
			}
			times := row[i]
			for k := range row {
				row[k] = (pivot*row[k] - times*by[k]) / before
			}
		}
		before = pivot
	}
	return before
}

func flows(heights []int, wires []api.Pair) []int {
	var currents []int
	for _, w := range wires {
		currents = append(currents, heights[w.A]-heights[w.B])
	}
	return currents
}

// lowest divides numbers, of which one is not 0, by their greatest common divisor.
func lowest(numbers []int) []int {
	common := 0
	for _, n := range numbers {
		common = divisor(common, max(n, -n))
	}
	var out []int
	for _, n := range numbers {
		out = append(out, n/common)
	}
	return out
}

// divisor returns the greatest common divisor.
func divisor(a, b int) int {
	for b > 0 {
		a, b = b, a%b
	}
	return a
}

func written(numbers []int) []api.Num {
	var list []api.Num
	for _, n := range numbers {
		list = append(list, api.Num(strconv.Itoa(n)))
	}
	return list
}

func ratio(top, bottom int) api.Num {
	return exact.Whole(top).Over(exact.Whole(bottom)).Num()
}
