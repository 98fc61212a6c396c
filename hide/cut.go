package hide

import (
	"cmp"
	"slices"

	"pommel/api"
)

// cut is a cut, its squares in order.
type cut struct {
	squares       []api.Square
	width, height int
}

func newCut(squares []api.Square) (cut, api.Errno) {
	if len(squares) > api.MaxSquares {
		return cut{}, api.ErrLong
	}
	var c cut
	for _, s := range squares {
		if !areSides(s.Size) || !isAt(s.X, s.Size) || !isAt(s.Y, s.Size) {
			return cut{}, api.ErrArg
		}
		c.width = max(c.width, s.X+s.Size)
		c.height = max(c.height, s.Y+s.Size)
	}
	if !cover(squares, c.width, c.height) {
		return cut{}, api.ErrForm
	}
	c.squares = slices.Clone(squares)
	slices.SortFunc(c.squares, inOrder)
	return c, api.OK
}

func areSides(sides ...int) bool {
	for _, side := range sides {
		if side < 1 || side > api.MaxSide {
			return false
		}
	}
	return true
}

// isAt reports whether a side of that size may begin there; it compares without a sum, which could overflow.
func isAt(from, size int) bool {
	return from >= 0 && from <= api.MaxSide-size
}

// cover reports whether squares that lie in a rectangle cover it without overlapping.
func cover(squares []api.Square, width, height int) bool {
	area := 0
	for i, s := range squares {
		area += s.Size * s.Size
		for _, o := range squares[:i] {
			if overlap(s, o) {
				return false
			}
		}
	}
	return len(squares) > 0 && area == width*height
}

func overlap(a, b api.Square) bool {
	return a.X < b.X+b.Size && b.X < a.X+a.Size && a.Y < b.Y+b.Size && b.Y < a.Y+a.Size
}

func inOrder(a, b api.Square) int {
	return cmp.Or(cmp.Compare(a.Y, b.Y), cmp.Compare(a.X, b.X))
}

func sizesOf(squares []api.Square) []int {
	var sizes []int
	for _, s := range squares {
		sizes = append(sizes, s.Size)
	}
	return sizes
}

// leastPart returns the first one of the smallest sets of squares that are a rectangle, or nil if the cut is simple.
// Each rectangle has one square in its left upper corner and another one in its right lower corner.
func (c cut) leastPart() []int {
	var least []int
	for _, first := range c.squares {
		for _, last := range c.squares {
			if first == last {
				continue
			}
			part := c.between(first, last)
			if len(part) == 0 || len(part) == len(c.squares) {
				continue
			}
			if least == nil || comparePart(part, least) < 0 {
				least = part
			}
		}
	}
	return least
}

func comparePart(a, b []int) int {
	return cmp.Or(cmp.Compare(len(a), len(b)), slices.Compare(a, b))
}

// between returns the squares of the rectangle that begins with the first square and ends with the last one,
// or nil if some squares lie in it only in part, or it does not end after it begins.
func (c cut) between(first, last api.Square) []int {
	right, bottom := last.X+last.Size, last.Y+last.Size
	area := (right - first.X) * (bottom - first.Y)
	var part []int
	for i, s := range c.squares {
		if s.X >= first.X && s.Y >= first.Y && s.X+s.Size <= right && s.Y+s.Size <= bottom {
			part = append(part, i)
			area -= s.Size * s.Size
		}
	}
	if area != 0 {
		return nil
	}
	return part
}
