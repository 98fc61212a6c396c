package hide

import "pommel/api"

// floor is how far down each column is covered.
type floor []int

// room returns the leftmost column with the least floor, and how many columns from there on have the same one.
func (f floor) room() (int, int) {
	from := 0
	for x, y := range f {
		if y < f[from] {
			from = x
		}
	}
	to := from
	for to < len(f) && f[to] == f[from] {
		to++
	}
	return from, to - from
}

func (f floor) put(x, size int) api.Square {
	s := api.Square{X: x, Y: f[x], Size: size}
	for i := range size {
		f[x+i] += size
	}
	return s
}

func (f floor) takeBack(s api.Square) {
	for i := range s.Size {
		f[s.X+i] = s.Y
	}
}

// laid returns the squares of a code, or nil if they cannot be put or do not end evenly.
func laid(width int, sizes []int) []api.Square {
	f := make(floor, width)
	var squares []api.Square
	for _, size := range sizes {
		x, wide := f.room()
		if size > min(wide, api.MaxSide-f[x]) {
			return nil
		}
		squares = append(squares, f.put(x, size))
	}
	if _, wide := f.room(); wide < width {
		return nil
	}
	return squares
}

// firstCode returns the lexicographically least code with so many squares, or nil if there is none; none has fewer squares.
func firstCode(width, height, count int) []int {
	f := make(floor, width)
	open := width * height
	greatest := min(width, height)
	var squares []api.Square
	size := 1 // the sizes below it have been tried for the next square
search:
	for {
		x, wide := f.room()
		most := min(wide, height-f[x])
		for ; size <= most && len(squares) < count; size++ {
			after := open - size*size
			if after > (count-len(squares)-1)*greatest*greatest {
				continue // what is left is more than the other squares can cover
			}
			squares = append(squares, f.put(x, size))
			open, size = after, 1
			if open == 0 {
				break search
			}
			continue search
		}
		if len(squares) == 0 {
			break search
		}
		last := squares[len(squares)-1]
		squares = squares[:len(squares)-1]
		f.takeBack(last)
		open += last.Size * last.Size
		size = last.Size + 1
	}
	return sizesOf(squares)
}
