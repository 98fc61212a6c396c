package brand

import (
	"fmt"
	"math/rand"
	"slices"
	"strings"
	"testing"

	"pommel/api"
)

// line writes words with spaces in between, a dash for the empty one; classes are parted by bars.
func line(classes ...[]string) string {
	var parts []string
	for _, class := range classes {
		words := slices.Clone(class)
		if at := slices.Index(words, ""); at >= 0 {
			words[at] = "-"
		}
		parts = append(parts, strings.Join(words, " "))
	}
	return strings.Join(parts, " | ")
}

// pair writes two words, or an error.
func pair(a, b string, e api.Errno) string {
	if e != api.OK {
		return fmt.Sprint("error ", e)
	}
	return line([]string{a, b})
}

// group writes what Groups returns.
func group(word string, count int, e api.Errno) string {
	return pair(word, fmt.Sprint(count), e)
}

const none = "error 5"

func TestMonoidKnown(t *testing.T) {
	for _, c := range []struct {
		b                                                        api.Brand
		monoid, idempotents, left, right, classes, group, simple string
	}{
		{even(), "- a", "-", "- a", "- a", "- a", "a 2", "- a"},
		{someA(), "- a", "- a", "- | a", "- | a", "- | a", none, none},
		{abAgain(), "- a b aa ab ba", "- aa ab ba", "- | a ba | b ab | aa", "- | a ab | b ba | aa", "- | a b ab ba | aa", none, "a b"},
		{every(1, true), "-", "-", "-", "-", "-", none, none},
		{every(3, false), "-", "-", "-", "-", "-", none, none},
		{brandOf("1111", "13", "20", "31", "02"), "-", "-", "-", "-", "-", none, none}, // it accepts every word
		{brandOf("01", "0", "1"), "-", "-", "-", "-", "-", none, none},                 // and this one none
		{circle(6), "- a aa aaa aaaa aaaaa", "-", "- a aa aaa aaaa aaaaa", "- a aa aaa aaaa aaaaa", "- a aa aaa aaaa aaaaa", "a 6", "- a"},
		{chainOf(4), "- a aa aaa", "- aaa", "- | a | aa | aaa", "- | a | aa | aaa", "- | a | aa | aaa", none, none},
		{brandOf("0001", "1", "2", "3", "2"), "- a aa aaa", "- aa", "- | a | aa aaa", "- | a | aa aaa", "- | a | aa aaa", "a 2", "aa aaa"},
		{brandOf("001", "012", "120", "201"), "- b c", "-", "- b c", "- b c", "- b c", "b 3", "- b"},                  // a does nothing
		{brandOf("01", "10", "10"), "- a b", "- a b", "- | a | b", "- | a b", "- | a b", none, "a b"},                 // words that end in a
		{brandOf("010", "12", "11", "22"), "- a b", "- a b", "- | a b", "- | a | b", "- | a b", none, "a b"},          // words that begin with a
		{brandOf("001", "111", "222", "222"), "- a aa", "- aa", "- | a | aa", "- | a | aa", "- | a | aa", none, none}, // all letters do the same
		{brandOf("10", "011", "100"), "- b", "-", "- b", "- b", "- b", "b 2", "- b"},
		{brandOf("01", "100", "111"), "- a", "- a", "- | a", "- | a", "- | a", none, none}, // two letters do nothing
	} {
		got := []string{line(monoidOf(t, c.b)), line(idempotentsOf(t, c.b)), line(classesOf(t, Left, c.b)...), line(classesOf(t, Right, c.b)...),
			line(classesOf(t, Classes, c.b)...), group(Groups(c.b)), pair(Simple(c.b))}
		want := []string{c.monoid, c.idempotents, c.left, c.right, c.classes, c.group, c.simple}
		if !slices.Equal(got, want) {
			t.Errorf("%v:\n%q, want\n%q", c.b, got, want)
		}
	}
}

// kindOf returns which kind of deed leads to these states: one that does nothing, one that leads several states to one, or any other.
func kindOf(ends []int) string {
	one := slices.Repeat(ends[:1], len(ends))
	switch {
	case ends[0] == 0 && slices.IsSorted(ends) && len(slices.Compact(slices.Clone(ends))) == len(ends):
		return "idle"
	case slices.Equal(ends, one):
		return "gather"
	}
	return "moves"
}

func checkDeed(t *testing.T, d deed, ends []int) {
	t.Helper()
	kind := ""
	switch d.(type) {
	case idle:
		kind = "idle"
	case gather:
		kind = "gather"
	case moves:
		kind = "moves"
	}
	if kind != kindOf(ends) {
		t.Errorf("%v: %s, want %s", ends, kind, kindOf(ends))
	}
	for state, to := range ends {
		if d.from(state) != to {
			t.Errorf("%v: from %d to %d", ends, state, d.from(state))
		}
	}
}

// TestDeeds: what words do, and what they do one after the other, is of the kind that it should be.
func TestDeeds(t *testing.T) {
	for n := 1; n <= 3; n++ {
		var all [][]int
		for b := range eachBrand(n, 1) { // each list comes several times
			var ends []int
			for _, row := range b.Next {
				ends = append(ends, row[0])
			}
			all = append(all, ends)
		}
		slices.SortFunc(all, slices.Compare)
		all = slices.CompactFunc(all, slices.Equal)
		for _, x := range all {
			checkDeed(t, newDeed(slices.Clone(x)), x)
			for _, y := range all {
				var ends []int
				for _, state := range x {
					ends = append(ends, y[state])
				}
				checkDeed(t, then(newDeed(x), newDeed(y)), ends)
			}
		}
	}
}

// TestMonoidSizes: monoids of which the numbers are known: all permutations, the even ones, all lists of states.
func TestMonoidSizes(t *testing.T) {
	for _, c := range []struct {
		b                                        api.Brand
		words, idempotents, left, right, classes int
		group                                    string
	}{
		{acting([]int{1, 2, 0}, []int{1, 0, 2}), 6, 1, 1, 1, 1, "a 3"},
		{acting([]int{1, 2, 3, 0}, []int{1, 0, 2, 3}), 24, 1, 1, 1, 1, "a 4"},
		{acting([]int{1, 2, 3, 4, 0}, []int{1, 0, 2, 3, 4}), 120, 1, 1, 1, 1, "a 5"},
		{acting([]int{1, 2, 3, 4, 0, 5}, []int{0, 1, 2, 4, 5, 3}), 360, 1, 1, 1, 1, "a 5"},
		{acting([]int{1, 2, 0}, []int{1, 0, 2}, []int{0, 1, 0}), 27, 10, 7, 5, 3, "a 3"},
		{acting([]int{1, 2, 3, 0}, []int{1, 0, 2, 3}, []int{0, 1, 2, 0}), 256, 41, 15, 15, 4, "a 4"},
		{acting([]int{1, 0}, []int{0, 0}), 4, 3, 3, 2, 2, "a 2"},
	} {
		got := []int{len(monoidOf(t, c.b)), len(idempotentsOf(t, c.b)), len(classesOf(t, Left, c.b)), len(classesOf(t, Right, c.b)), len(classesOf(t, Classes, c.b))}
		if want := []int{c.words, c.idempotents, c.left, c.right, c.classes}; !slices.Equal(got, want) || group(Groups(c.b)) != c.group {
			t.Errorf("%v: %v, %s, want %v, %s", c.b, got, group(Groups(c.b)), want, c.group)
		}
	}
}

// checkFull checks the errors of all functions of the monoid: ErrFull, if it has too many elements.
func checkFull(t *testing.T, b api.Brand, want api.Errno) {
	t.Helper()
	_, a := Monoid(b)
	_, c := Element(b, "")
	_, d := Idempotents(b)
	_, f := Left(b)
	_, g := Right(b)
	_, h := Classes(b)
	_, _, i := Groups(b)
	_, _, j := Simple(b)
	got := []api.Errno{a, c, d, f, g, h}
	if slices.ContainsFunc(got, func(e api.Errno) bool { return e != want }) {
		t.Errorf("%v: errors %v, want %d", b, got, want)
	}
	if ok := want == api.OK; ok != (i != api.ErrFull) || ok != (j != api.ErrFull) {
		t.Errorf("%v: errors %d, %d of Groups and Simple", b, i, j)
	}
}

// TestMaxMonoid: monoids of exactly as many elements as are allowed, and of more.
func TestMaxMonoid(t *testing.T) {
	for _, b := range all400() {
		checkFull(t, b, api.OK)
		if n := len(monoidOf(t, b)); n != api.MaxMonoid {
			t.Errorf("%v: %d elements", b, n)
		}
	}
	full := all401()
	for _, b := range full {
		if words, _ := wantMonoid(b); len(words) != api.MaxMonoid+1 {
			t.Errorf("%v: %d elements", b, len(words))
		}
	}
	full = append(full, acting([]int{1, 2, 3, 4, 5, 0}, []int{1, 0, 2, 3, 4, 5}), cerny(6), cerny(5)) // 720 and more
	full = append(full, acting([]int{1, 2, 3, 4, 5, 0}, []int{1, 0, 2, 3, 4, 5}, []int{0, 0, 2, 3, 4, 5}))
	for _, b := range full {
		checkFull(t, b, api.ErrFull)
		if _, e := Element(b, "d"); e != api.ErrForm { // R2
			t.Errorf("Element of %v: %d", b, e)
		}
		if _, e := Element(b, strings.Repeat("a", api.MaxWord+1)); e != api.ErrLong {
			t.Errorf("Element of %v: %d", b, e)
		}
		if small, e := Smallest(b); e != api.OK || len(small.Next) != len(b.Next) {
			t.Errorf("Smallest of %v: %d", b, e)
		}
		if ok, e := Accepts(b, ""); e != api.OK || ok != b.Good[0] {
			t.Errorf("Accepts of %v: %d", b, e)
		}
		if _, e := Differ(b, b); e != api.ErrNone {
			t.Errorf("Differ of %v: %d", b, e)
		}
	}
}

// table is a monoid as a table of products, made of the lists of states of its words.
type table struct {
	words   []string
	product [][]int
}

func newTable(b api.Brand) table {
	small := wantSmallest(b)
	words, least := wantMonoid(b)
	t := table{words: words}
	number := map[string]int{}
	for i, word := range words {
		number[word] = i
	}
	for _, x := range words {
		var row []int
		for _, y := range words {
			row = append(row, number[least[does(small, x+y)]])
		}
		t.product = append(t.product, row)
	}
	return t
}

// leftBelow returns which elements are left below y.
func (t table) leftBelow(y int) []bool {
	below := make([]bool, len(t.words))
	for z := range t.words {
		below[t.product[z][y]] = true
	}
	return below
}

func (t table) rightBelow(y int) []bool {
	below := make([]bool, len(t.words))
	for z := range t.words {
		below[t.product[y][z]] = true
	}
	return below
}

func (t table) below(y int) []bool {
	below := make([]bool, len(t.words))
	for x, first := range t.leftBelow(y) {
		if !first {
			continue
		}
		for w := range t.words {
			below[t.product[x][w]] = true
		}
	}
	return below
}

// classes returns the classes by one of these relations, as words.
func (t table) classes(below func(int) []bool) [][]string {
	var relation [][]bool
	for y := range t.words {
		relation = append(relation, below(y))
	}
	var out [][]string
	for x := range t.words {
		var class []string
		least := true
		for y, word := range t.words {
			if relation[x][y] && relation[y][x] {
				class = append(class, word)
				least = least && y >= x
			}
		}
		if least {
			out = append(out, class)
		}
	}
	return out
}

// recurring returns how many different powers of x come again and again: those from the n-th to the 2n-th one, for n elements.
func (t table) recurring(x int) int {
	n := len(t.words)
	seen := map[int]bool{}
	power := x
	for i := 1; i <= 2*n; i++ {
		if i >= n {
			seen[power] = true
		}
		power = t.product[power][x]
	}
	return len(seen)
}

func (t table) groups() string {
	for x, word := range t.words {
		if n := t.recurring(x); n > 1 {
			return group(word, n, api.OK)
		}
	}
	return none
}

func (t table) simple() string {
	classes := t.classes(t.below)
	for x, word := range t.words {
		for y, other := range t.words {
			if x != y && slices.ContainsFunc(classes, func(c []string) bool { return slices.Contains(c, word) && slices.Contains(c, other) }) {
				return pair(word, other, api.OK)
			}
		}
	}
	return none
}

func (t table) idempotents() []string {
	var out []string
	for x, word := range t.words {
		if t.product[x][x] == x {
			out = append(out, word)
		}
	}
	return out
}

// checkMonoid checks all functions of the monoid by the definitions, if it has at most so many elements; it reports whether it has.
func checkMonoid(t *testing.T, b api.Brand, most int) bool {
	t.Helper()
	words, _ := wantMonoid(b)
	if len(words) > api.MaxMonoid {
		checkFull(t, b, api.ErrFull)
		return false
	}
	if got := monoidOf(t, b); !slices.Equal(got, words) {
		t.Fatalf("Monoid of %v = %q, want %q", b, got, words)
	}
	if len(words) > most {
		return false
	}
	want := newTable(b)
	if got := idempotentsOf(t, b); !slices.Equal(got, want.idempotents()) {
		t.Fatalf("Idempotents of %v = %q, want %q", b, got, want.idempotents())
	}
	left, right, classes := classesOf(t, Left, b), classesOf(t, Right, b), classesOf(t, Classes, b)
	if !same(left, want.classes(want.leftBelow)) {
		t.Fatalf("Left of %v = %q", b, left)
	}
	if !same(right, want.classes(want.rightBelow)) {
		t.Fatalf("Right of %v = %q", b, right)
	}
	if !same(classes, want.classes(want.below)) {
		t.Fatalf("Classes of %v = %q", b, classes)
	}
	if got := group(Groups(b)); got != want.groups() {
		t.Fatalf("Groups of %v = %s, want %s", b, got, want.groups())
	}
	if got := pair(Simple(b)); got != want.simple() {
		t.Fatalf("Simple of %v = %s, want %s", b, got, want.simple())
	}
	checkGreen(t, left, right, classes)
	return true
}

// checkGreen checks G3.
func checkGreen(t *testing.T, left, right, classes [][]string) {
	t.Helper()
	within := func(part, class []string) bool {
		return !slices.ContainsFunc(part, func(x string) bool { return !slices.Contains(class, x) })
	}
	inClasses := 0
	for _, class := range classes {
		sizes := map[int]bool{}
		for _, l := range left {
			if !within(l, class) {
				continue
			}
			inClasses += len(l)
			for _, r := range right {
				if !within(r, class) {
					continue
				}
				common := 0
				for _, x := range l {
					if slices.Contains(r, x) {
						common++
					}
				}
				sizes[common] = true
			}
		}
		if len(sizes) != 1 || sizes[0] {
			t.Fatalf("%q, %q, %q: left and right classes meet in different numbers %v", left, right, classes, sizes)
		}
		inClasses -= len(class)
	}
	if inClasses != 0 || len(slices.Concat(left...)) != len(slices.Concat(classes...)) || len(slices.Concat(right...)) != len(slices.Concat(classes...)) {
		t.Fatalf("%q, %q do not refine %q", left, right, classes)
	}
}

func TestMonoid(t *testing.T) {
	for _, c := range [][2]int{{1, 1}, {1, 2}, {1, 3}, {2, 1}, {2, 2}, {2, 3}, {3, 1}} {
		for b := range eachBrand(c[0], c[1]) {
			checkMonoid(t, b, api.MaxMonoid)
		}
	}
	count := 0
	for b := range eachBrand(3, 2) {
		if count++; count%7 == 0 {
			checkMonoid(t, b, api.MaxMonoid)
		}
	}
	r := rand.New(rand.NewSource(6))
	checked := 0
	for range 500 {
		if checkMonoid(t, anyBrand(r), 60) {
			checked++
		}
	}
	if checked < 200 {
		t.Errorf("only %d brands are checked", checked)
	}
	for _, b := range []api.Brand{all400()[0], acting([]int{1, 2, 3, 0}, []int{1, 0, 2, 3}, []int{0, 1, 2, 0})} {
		checkMonoid(t, b, api.MaxMonoid)
	}
	checkMonoid(t, acting([]int{1, 2, 3, 4, 0, 5}, []int{0, 1, 2, 4, 5, 3}), api.MaxMonoid)
}

// TestElement: the least word that does the same, among all words; G2, for words of up to MaxWord letters; G8.
func TestElement(t *testing.T) {
	r := rand.New(rand.NewSource(7))
	for range 100 {
		b := anyBrand(r)
		words, e := Monoid(b)
		if e != api.OK || len(words) > 80 {
			continue
		}
		small := wantSmallest(b)
		least := map[string]string{}
		for word := range eachWord(signs(b), 5) {
			list := does(small, word)
			if _, known := least[list]; !known {
				least[list] = word
			}
			if got := elementOf(t, b, word); got != least[list] {
				t.Fatalf("Element of %v, %q = %q, want %q", b, word, got, least[list])
			}
		}
		u, v := someWord(r, signs(b), r.Intn(101)), someWord(r, signs(b), r.Intn(101))
		x, y := elementOf(t, b, u), elementOf(t, b, v)
		product := elementOf(t, b, u+v)
		if got := elementOf(t, b, x+y); got != product || does(small, got) != does(small, u+v) || !slices.Contains(words, got) {
			t.Fatalf("Element of %v, %q, %q = %q, of the elements %q", b, u, v, product, got)
		}
		checkTurned(t, b)
	}
	long := strings.Repeat("a", api.MaxWord)
	if got := elementOf(t, circle(6), long); got != "aa" {
		t.Errorf("Element of %q = %q", long, got)
	}
	if got := elementOf(t, chainOf(6), long); got != "aaaaa" {
		t.Errorf("Element of %q = %q", long, got)
	}
	if got := elementOf(t, brandOf("001", "012", "120", "201"), "abacab"); got != "b" {
		t.Errorf("Element = %q", got)
	}
}

// checkTurned checks G8, and that the monoid of the smallest form is the same (G2).
func checkTurned(t *testing.T, b api.Brand) {
	t.Helper()
	turned := api.Brand{Next: b.Next, Good: slices.Clone(b.Good)}
	for state := range turned.Good {
		turned.Good[state] = !turned.Good[state]
	}
	want := monoidOf(t, b)
	for _, c := range []api.Brand{turned, smallestOf(t, b), smallestOf(t, turned)} {
		if got := monoidOf(t, c); !slices.Equal(got, want) {
			t.Fatalf("Monoid of %v = %q, of %v = %q", b, want, c, got)
		}
		for word := range eachWord(signs(b), 4) {
			if elementOf(t, b, word) != elementOf(t, c, word) {
				t.Fatalf("Element of %v, %v, %q", b, c, word)
			}
		}
	}
}

// TestPowers: G4: some power of each element is an idempotent; G5: a number of Groups is 2 or more, and so many powers come again and again.
func TestPowers(t *testing.T) {
	r := rand.New(rand.NewSource(8))
	for range 300 {
		b := anyBrand(r)
		words, e := Monoid(b)
		if e != api.OK || len(words) > 80 {
			continue
		}
		small, idempotents := wantSmallest(b), map[string]bool{}
		for _, word := range idempotentsOf(t, b) {
			idempotents[does(small, word)] = true
		}
		first, count, e := Groups(b)
		for _, word := range words {
			powers := powersOf(small, word)
			if !slices.ContainsFunc(powers, func(power string) bool { return idempotents[power] }) {
				t.Fatalf("%v: no power of %q is an idempotent", b, word)
			}
			last := powers[len(powers)/2:]
			slices.Sort(last)
			n := len(slices.Compact(last))
			isFirst := e == api.OK && word == first
			if isFirst && (n < 2 || n != count) || !isFirst && n > 1 && (e != api.OK || compare(word, first) < 0) {
				t.Fatalf("Groups of %v = %q, %d, %d: of %q come %d powers again", b, first, count, e, word, n)
			}
		}
	}
}

// powersOf returns what the first powers of a word do. A list of six states has at most 12 different powers.
func powersOf(b api.Brand, word string) []string {
	var powers []string
	for n := 1; n <= 24; n++ {
		powers = append(powers, does(b, strings.Repeat(word, n)))
	}
	return powers
}
