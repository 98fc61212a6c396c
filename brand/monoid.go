package brand

import "pommel/api"

// deed is what a word does.
type deed interface {
	// from returns the state to which the word leads from a state.
	from(state int) int
}

// idle leads each state to itself.
type idle struct{}

// gather leads all states, of which there are several, to one.
type gather struct{ to int }

// moves is any other deed: the states to which it leads from each state.
type moves []int

func (idle) from(state int) int { return state }

func (g gather) from(int) int { return g.to }

func (m moves) from(state int) int { return m[state] }

// newDeed returns the deed that leads to these states from each state.
func newDeed(ends []int) deed {
	isIdle, isGather := true, true
	for state, to := range ends {
		isIdle = isIdle && to == state
		isGather = isGather && to == ends[0]
	}
	if isIdle {
		return idle{}
	}
	if isGather {
		return gather{ends[0]}
	}
	return moves(ends)
}

// then returns what x, followed by y, does.
func then(x, y deed) deed {
	var ends []int
	switch x := x.(type) {
	case idle:
		return y
	case gather:
		return gather{y.from(x.to)}
	case moves:
		for _, state := range x {
			ends = append(ends, y.from(state))
		}
	}
	return newDeed(ends)
}

// list is the states to which a deed leads from each state, as a key of a map; what lies beyond the last state is 0.
type list [api.MaxStates]int

// monoid is all that words do with the states of a smallest form, in the order of their least words.
type monoid struct {
	states  int
	words   []string
	deeds   []deed
	numbers map[list]int // the element that does this
	after   [][]int      // the element followed by each letter
	before  [][]int      // each letter followed by the element
}

// newMonoid returns the monoid of a brand.
func newMonoid(b api.Brand) (monoid, api.Errno) {
	if !isBrand(b) {
		return monoid{}, api.ErrArg
	}
	small := smallest(b)
	m := monoid{states: len(small.Next), numbers: map[list]int{}}
	letters := letterDeeds(small)
	m.add("", idle{})
	for x := 0; x < len(m.words); x++ { // words grows
		var row []int
		for sign, does := range letters {
			d := then(m.deeds[x], does)
			if _, known := m.numbers[m.list(d)]; !known {
				if len(m.words) == api.MaxMonoid {
					return monoid{}, api.ErrFull
				}
				m.add(m.words[x]+letter(sign), d)
			}
			row = append(row, m.number(d))
		}
		m.after = append(m.after, row)
	}
	for _, d := range m.deeds {
		var row []int
		for _, does := range letters {
			row = append(row, m.number(then(does, d)))
		}
		m.before = append(m.before, row)
	}
	return m, api.OK
}

// letterDeeds returns what each letter does with the states of a brand.
func letterDeeds(b api.Brand) []deed {
	var letters []deed
	for sign := range signs(b) {
		var ends []int
		for _, row := range b.Next {
			ends = append(ends, row[sign])
		}
		letters = append(letters, newDeed(ends))
	}
	return letters
}

func (m *monoid) add(word string, d deed) {
	m.numbers[m.list(d)] = len(m.words)
	m.words, m.deeds = append(m.words, word), append(m.deeds, d)
}

func (m *monoid) list(d deed) list {
	var to list
	for state := range m.states {
		to[state] = d.from(state)
	}
	return to
}

// number returns the element that does d.
func (m *monoid) number(d deed) int {
	return m.numbers[m.list(d)]
}

// product returns the element that does what x, followed by y, does.
func (m *monoid) product(x, y int) int {
	return m.number(then(m.deeds[x], m.deeds[y]))
}

// element returns the element that does what a word does.
func (m *monoid) element(word string) int {
	x := 0
	for i := range len(word) {
		x = m.after[x][word[i]-'a']
	}
	return x
}

// recurring returns how many different powers of an element come again and again.
func (m *monoid) recurring(x int) int {
	times := map[int]int{} // for which power an element was seen first
	power := x
	for time := 0; ; time++ {
		if first, seen := times[power]; seen {
			return time - first
		}
		times[power] = time
		power = m.product(power, x)
	}
}

// classes returns the classes of the elements of which each leads to the other by steps in any of these ways.
func (m *monoid) classes(ways ...[][]int) [][]int {
	var below [][]bool
	for x := range m.words {
		below = append(below, allBelow(x, len(m.words), ways))
	}
	var classes [][]int
	placed := make([]bool, len(m.words))
	for x := range m.words {
		if placed[x] {
			continue
		}
		var class []int
		for y := range m.words {
			if below[x][y] && below[y][x] {
				class = append(class, y)
				placed[y] = true
			}
		}
		classes = append(classes, class)
	}
	return classes
}

// allBelow reports for each of n elements whether x leads to it by steps in any of these ways.
func allBelow(x, n int, ways [][][]int) []bool {
	below := make([]bool, n)
	below[x] = true
	stack := []int{x}
	for len(stack) > 0 {
		last := len(stack) - 1
		at := stack[last]
		stack = stack[:last]
		for _, way := range ways {
			for _, next := range way[at] {
				if !below[next] {
					below[next] = true
					stack = append(stack, next)
				}
			}
		}
	}
	return below
}

// written returns classes as words.
func (m *monoid) written(classes [][]int) [][]string {
	var out [][]string
	for _, class := range classes {
		var words []string
		for _, x := range class {
			words = append(words, m.words[x])
		}
		out = append(out, words)
	}
	return out
}
