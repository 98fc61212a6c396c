package brand

import (
	"fmt"
	"math/rand"
	"slices"
	"testing"

	"pommel/api"
)

// The brands of this file may have any number of states, until they are tidied.

// build returns the brand of all that words lead to from a start.
func build(signs int, start string, step func(at string, sign int) string, good func(at string) bool) api.Brand {
	found, numbers := []string{start}, map[string]int{start: 0}
	var b api.Brand
	for i := 0; i < len(found); i++ {
		var row []int
		for sign := range signs {
			next := step(found[i], sign)
			if _, known := numbers[next]; !known {
				numbers[next] = len(found)
				found = append(found, next)
			}
			row = append(row, numbers[next])
		}
		b.Next, b.Good = append(b.Next, row), append(b.Good, good(found[i]))
	}
	return b
}

// tidy joins the states of a brand that accept the same words: they are parted by what their letters lead to, until they stay as they are.
func tidy(b api.Brand) api.Brand {
	kinds := make([]int, len(b.Next))
	for state, good := range b.Good {
		if good {
			kinds[state] = 1
		}
	}
	for range b.Next {
		numbers, next := map[string]int{}, make([]int, len(kinds))
		for state, row := range b.Next {
			key := fmt.Sprint(kinds[state])
			for _, to := range row {
				key += fmt.Sprint(" ", kinds[to])
			}
			if _, known := numbers[key]; !known {
				numbers[key] = len(numbers)
			}
			next[state] = numbers[key]
		}
		kinds = next
	}
	first := func(state string) int {
		var kind int
		fmt.Sscan(state, &kind)
		return slices.Index(kinds, kind)
	}
	return build(len(b.Next[0]), fmt.Sprint(kinds[0]), func(at string, sign int) string { return fmt.Sprint(kinds[b.Next[first(at)][sign]]) },
		func(at string) bool { return b.Good[first(at)] })
}

// both returns the brand that accepts the words for which accept says so, of whether b and of whether c accepts them.
func both(b, c api.Brand, accept func(x, y bool) bool) api.Brand {
	states := func(at string) (int, int) {
		var s, t int
		fmt.Sscan(at, &s, &t)
		return s, t
	}
	return tidy(build(len(b.Next[0]), "0 0", func(at string, sign int) string {
		s, t := states(at)
		return fmt.Sprint(b.Next[s][sign], c.Next[t][sign])
	}, func(at string) bool {
		s, t := states(at)
		return accept(b.Good[s], c.Good[t])
	}))
}

func union(b, c api.Brand) api.Brand {
	return both(b, c, func(x, y bool) bool { return x || y })
}

func intersection(b, c api.Brand) api.Brand {
	return both(b, c, func(x, y bool) bool { return x && y })
}

func complement(b api.Brand) api.Brand {
	return both(b, b, func(x, _ bool) bool { return !x })
}

// concat returns the brand that accepts a word of b with a word of c written behind it.
func concat(b, c api.Brand) api.Brand {
	type place struct {
		state int
		set   []int // states of c
	}
	var places []place
	number := func(p place) string {
		if b.Good[p.state] {
			p.set = append(p.set, 0)
		}
		slices.Sort(p.set)
		p.set = slices.Compact(p.set)
		at := slices.IndexFunc(places, func(q place) bool { return q.state == p.state && slices.Equal(q.set, p.set) })
		if at < 0 {
			at = len(places)
			places = append(places, p)
		}
		return fmt.Sprint(at)
	}
	find := func(at string) place {
		var i int
		fmt.Sscan(at, &i)
		return places[i]
	}
	return tidy(build(len(b.Next[0]), number(place{}), func(at string, sign int) string {
		p := find(at)
		next := place{state: b.Next[p.state][sign]}
		for _, s := range p.set {
			next.set = append(next.set, c.Next[s][sign])
		}
		return number(next)
	}, func(at string) bool {
		return slices.ContainsFunc(find(at).set, func(s int) bool { return c.Good[s] })
	}))
}

// just returns the brand that accepts just one letter.
func just(signs, sign int) api.Brand {
	b := api.Brand{Next: [][]int{slices.Repeat([]int{2}, signs), slices.Repeat([]int{2}, signs), slices.Repeat([]int{2}, signs)}, Good: []bool{false, true, false}}
	b.Next[0][sign] = 1
	return b
}

// starFree returns a language that union, intersection, complement and writing one after the other make of letters.
func starFree(r *rand.Rand, signs, depth int) api.Brand {
	if depth == 0 {
		return just(signs, r.Intn(signs))
	}
	b, c := starFree(r, signs, r.Intn(depth)), starFree(r, signs, depth-1)
	if len(b.Next) > 12 || len(c.Next) > 12 {
		return c
	}
	switch r.Intn(6) {
	case 0:
		return union(b, c)
	case 1:
		return intersection(b, c)
	case 2, 3:
		return complement(c)
	}
	return concat(b, c)
}

// TestStarFree: G5.
func TestStarFree(t *testing.T) {
	r := rand.New(rand.NewSource(11))
	seen := map[string]bool{}
	for len(seen) < 400 {
		b := starFree(r, 1+r.Intn(api.MaxSigns), 2+r.Intn(5))
		if len(b.Next) > api.MaxStates || seen[fmt.Sprint(b)] {
			continue
		}
		seen[fmt.Sprint(b)] = true
		if _, _, e := Groups(b); e != api.ErrNone && e != api.ErrFull {
			t.Fatalf("Groups of %v: %d", b, e)
		}
		if small := smallestOf(t, b); !sameBrand(small, b) {
			t.Fatalf("Smallest of %v = %v", b, small)
		}
	}
}

// TestCounting: languages that count letters, which are not made so.
func TestCounting(t *testing.T) {
	for n := 2; n <= api.MaxStates; n++ {
		b := circle(n)
		for range 2 {
			if got, want := group(Groups(b)), fmt.Sprint("a ", n); got != want {
				t.Errorf("Groups of %v = %s, want %s", b, got, want)
			}
			b = brandOf("100000"[:n], []string{"10", "21", "32", "43", "54", "05"}[:n]...) // over a and b, of which b does nothing
			b.Next[n-1][0] = 0
		}
	}
	evenPairs := brandOf("1000", "13", "20", "31", "02") // b goes the other way around
	if got := group(Groups(evenPairs)); got != "a 4" {
		t.Errorf("Groups of %v = %s", evenPairs, got)
	}
	aTwice := concat(circle(2), concat(just(1, 0), circle(2))) // an odd number of letters
	if got := group(Groups(aTwice)); got != "a 2" {
		t.Errorf("Groups of %v = %s", aTwice, got)
	}
}

// withPart returns the brand that accepts the words of which a word is a part.
func withPart(signs int, part string) api.Brand {
	b := api.Brand{Good: make([]bool, len(part)+1)}
	b.Good[len(part)] = true
	for state := range len(part) + 1 {
		row := slices.Repeat([]int{state}, signs)
		if state < len(part) {
			row[part[state]-'a']++
		}
		b.Next = append(b.Next, row)
	}
	return b
}

// byParts returns a language that depends only on the parts of length k.
func byParts(r *rand.Rand, signs, k, depth int) api.Brand {
	if depth == 0 {
		return withPart(signs, someWord(r, signs, r.Intn(k+1)))
	}
	b, c := byParts(r, signs, k, r.Intn(depth)), byParts(r, signs, k, depth-1)
	if len(b.Next) > 12 || len(c.Next) > 12 {
		return c
	}
	switch r.Intn(4) {
	case 0:
		return union(b, c)
	case 1:
		return intersection(b, c)
	case 2:
		return complement(c)
	}
	return intersection(b, complement(c))
}

// TestByParts: whether a word is accepted depends on its parts of length k, if it is made of that; then Simple returns ErrNone, and so does Groups (G6).
func TestByParts(t *testing.T) {
	r := rand.New(rand.NewSource(12))
	seen := map[string]bool{}
	for len(seen) < 300 {
		signs, k := 1+r.Intn(api.MaxSigns), 1+r.Intn(3)
		b := byParts(r, signs, k, 1+r.Intn(5))
		if len(b.Next) > api.MaxStates || seen[fmt.Sprint(b, k)] {
			continue
		}
		seen[fmt.Sprint(b, k)] = true
		for length := k; length <= 3; length++ {
			want := none
			if signs == 3 && length == 3 {
				want = "error 7"
			}
			if got := pair(Short(b, length)); got != want {
				t.Fatalf("Short of %v, %d = %s, want %s", b, length, got, want)
			}
		}
		if got := pair(Simple(b)); got != none {
			t.Fatalf("Simple of %v = %s", b, got)
		}
		if got := group(Groups(b)); got != none {
			t.Fatalf("Groups of %v = %s", b, got)
		}
	}
}

// checkImplied checks G6, and returns whether Short, Simple and Groups return ErrNone.
func checkImplied(t *testing.T, b api.Brand) [3]bool {
	t.Helper()
	var is [3]bool
	for k := range 4 {
		_, _, e := Short(b, k)
		is[0] = is[0] || e == api.ErrNone
	}
	_, _, e := Simple(b)
	_, _, f := Groups(b)
	is[1], is[2] = e == api.ErrNone, f == api.ErrNone
	if is[0] && !is[1] || is[1] && !is[2] {
		t.Fatalf("%v: %v", b, is)
	}
	return is
}

// TestSimon: G6, for all small brands and for others.
func TestSimon(t *testing.T) {
	counts := map[[3]bool]int{}
	for _, c := range [][2]int{{1, 1}, {1, 2}, {1, 3}, {2, 1}, {2, 2}, {2, 3}, {3, 1}, {3, 2}} {
		for b := range eachBrand(c[0], c[1]) {
			counts[checkImplied(t, b)]++
		}
	}
	r := rand.New(rand.NewSource(13))
	for range 400 {
		counts[checkImplied(t, someBrand(r, 4+r.Intn(3), 1+r.Intn(2)))]++
	}
	if len(counts) != 4 { // also none of them for one letter, and Simple without Short
		t.Errorf("only some kinds of brands: %v", counts)
	}
}
