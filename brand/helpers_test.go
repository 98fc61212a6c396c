package brand

import (
	"cmp"
	"fmt"
	"math/rand"
	"slices"
	"strings"
	"testing"

	"pommel/api"
)

// brandOf returns a brand of which each state's Good is a digit, 0 or 1, and each row of Next its digits.
func brandOf(good string, rows ...string) api.Brand {
	var b api.Brand
	for _, digit := range good {
		b.Good = append(b.Good, digit == '1')
	}
	for _, digits := range rows {
		var row []int
		for _, digit := range digits {
			row = append(row, int(digit-'0'))
		}
		b.Next = append(b.Next, row)
	}
	return b
}

// Brands that several tests use.

// even accepts the words with an even number of letters a.
func even() api.Brand { return brandOf("10", "1", "0") }

// someA accepts the words with an a somewhere.
func someA() api.Brand { return brandOf("01", "10", "11") }

// abAgain accepts the empty word, ab, abab and so on.
func abAgain() api.Brand { return brandOf("100", "12", "20", "22") }

// all400 and more are brands whose monoids have just MaxMonoid elements, and one more.
func all400() []api.Brand {
	return []api.Brand{
		brandOf("000110", "23", "50", "44", "14", "52", "30"), brandOf("011000", "125", "445", "432", "535", "100", "552"), brandOf("01110", "443", "440", "201", "342", "010"),
	}
}

func all401() []api.Brand {
	return []api.Brand{
		brandOf("011110", "23", "50", "44", "41", "03", "30"), brandOf("001010", "235", "533", "543", "514", "454", "404"), brandOf("00001", "134", "201", "434", "123", "011"),
	}
}

// every returns the brand of one state that accepts every word, or none.
func every(signs int, good bool) api.Brand {
	return api.Brand{Next: [][]int{make([]int, signs)}, Good: []bool{good}}
}

// circle returns the brand of one letter that goes around n states and accepts the words with which it is back.
func circle(n int) api.Brand {
	b := api.Brand{Good: make([]bool, n)}
	b.Good[0] = true
	for state := range n {
		b.Next = append(b.Next, []int{(state + 1) % n})
	}
	return b
}

// chainOf returns the brand of one letter with n states that stays in the last one, the only good one.
func chainOf(n int) api.Brand {
	b := api.Brand{Good: make([]bool, n)}
	b.Good[n-1] = true
	for state := range n {
		b.Next = append(b.Next, []int{min(state+1, n-1)})
	}
	return b
}

// acting returns the brand on which the letters lead to these states; only the last one is good.
func acting(letters ...[]int) api.Brand {
	n := len(letters[0])
	b := api.Brand{Good: make([]bool, n)}
	b.Good[n-1] = true
	for state := range n {
		var row []int
		for _, ends := range letters {
			row = append(row, ends[state])
		}
		b.Next = append(b.Next, row)
	}
	return b
}

// cerny returns Černý's brand: a goes around n states, b leads the last one to the first one.
func cerny(n int) api.Brand {
	around, last := make([]int, n), make([]int, n)
	for state := range n {
		around[state], last[state] = (state+1)%n, state%(n-1)
	}
	return acting(around, last)
}

// eachBrand yields all brands with so many states and letters.
func eachBrand(n, signs int) func(yield func(api.Brand) bool) {
	return func(yield func(api.Brand) bool) {
		digits := make([]int, n*signs+n) // the states of Next, then Good
		for {
			var b api.Brand
			for state := range n {
				b.Next = append(b.Next, slices.Clone(digits[state*signs:(state+1)*signs]))
				b.Good = append(b.Good, digits[n*signs+state] == 1)
			}
			if !yield(b) {
				return
			}
			i := 0
			for ; i < len(digits); i++ {
				most := n
				if i >= n*signs {
					most = 2
				}
				if digits[i]++; digits[i] < most {
					break
				}
				digits[i] = 0
			}
			if i == len(digits) {
				return
			}
		}
	}
}

// someBrand returns a random brand with so many states and letters: any, one that never goes back, one that leads different states to different ones, or one with states that are alike.
func someBrand(r *rand.Rand, n, signs int) api.Brand {
	kind := r.Intn(5)
	b := api.Brand{Good: make([]bool, n)}
	for state := range n {
		row := make([]int, signs)
		for sign := range row {
			row[sign] = r.Intn(n)
			if kind == 1 || kind == 2 && r.Intn(4) > 0 {
				row[sign] = state + r.Intn(n-state)
			}
		}
		b.Next, b.Good[state] = append(b.Next, row), r.Intn(2) == 0
	}
	switch kind {
	case 3:
		for sign := range signs {
			for state, to := range r.Perm(n) {
				b.Next[state][sign] = to
			}
		}
	case 4:
		for range r.Intn(n + 1) {
			s, t := r.Intn(n), r.Intn(n)
			b.Next[s], b.Good[s] = slices.Clone(b.Next[t]), b.Good[t]
		}
	}
	return b
}

// anyBrand returns a random brand with a random number of states and letters.
func anyBrand(r *rand.Rand) api.Brand {
	return someBrand(r, 1+r.Intn(api.MaxStates), 1+r.Intn(api.MaxSigns))
}

// someWord returns a random word of so many letters.
func someWord(r *rand.Rand, signs, length int) string {
	word := make([]byte, length)
	for i := range word {
		word[i] = "abc"[r.Intn(signs)]
	}
	return string(word)
}

// eachWord yields all words of up to so many letters, the least one first.
func eachWord(signs, most int) func(yield func(string) bool) {
	return func(yield func(string) bool) {
		words := []string{""}
		for range most + 1 {
			var longer []string
			for _, word := range words {
				if !yield(word) {
					return
				}
				for _, letter := range "abc"[:signs] {
					longer = append(longer, word+string(letter))
				}
			}
			words = longer
		}
	}
}

// compare compares words by their length, and then in byte order.
func compare(a, b string) int {
	if len(a) != len(b) {
		return cmp.Compare(len(a), len(b))
	}
	return strings.Compare(a, b)
}

// The definitions of the chapter.

// walk returns the state to which a word leads from a state.
func walk(b api.Brand, state int, word string) int {
	for _, letter := range word {
		state = b.Next[state][letter-'a']
	}
	return state
}

func wantAccepts(b api.Brand, word string) bool {
	return b.Good[walk(b, 0, word)]
}

// does returns what a word does with the states of a brand.
func does(b api.Brand, word string) string {
	var out strings.Builder
	for state := range b.Next {
		out.WriteByte(byte('0' + walk(b, state, word)))
	}
	return out.String()
}

// wantSmallest tells states from each other by all words that can be needed for it.
func wantSmallest(b api.Brand) api.Brand {
	n, signs := len(b.Next), len(b.Next[0])
	rows := make([]string, n)
	for state := range n {
		for word := range eachWord(signs, n-1) {
			rows[state] += fmt.Sprint(b.Good[walk(b, state, word)])[:1]
		}
	}
	var first []int // the states that are reached first
	number := func(state int) int {
		return slices.IndexFunc(first, func(s int) bool { return rows[s] == rows[state] })
	}
	for word := range eachWord(signs, n-1) {
		if state := walk(b, 0, word); number(state) < 0 {
			first = append(first, state)
		}
	}
	small := api.Brand{}
	for _, state := range first {
		var row []int
		for sign := range signs {
			row = append(row, number(b.Next[state][sign]))
		}
		small.Next, small.Good = append(small.Next, row), append(small.Good, b.Good[state])
	}
	return small
}

// wantMonoid returns the elements of a monoid and which of them has each list of states: words are made longer until none of them is less than one that is known.
func wantMonoid(b api.Brand) ([]string, map[string]string) {
	small := wantSmallest(b)
	least := map[string]string{does(small, ""): ""}
	for changed := true; changed; {
		changed = false
		for _, word := range least {
			for _, letter := range "abc"[:len(b.Next[0])] {
				longer := word + string(letter)
				list := does(small, longer)
				if old, known := least[list]; !known || compare(longer, old) < 0 {
					least[list] = longer
					changed = true
				}
			}
		}
		if len(least) > 2*api.MaxMonoid { // it is not needed whole
			break
		}
	}
	var words []string
	for _, word := range least {
		words = append(words, word)
	}
	slices.SortFunc(words, compare)
	return words, least
}

// The functions, of arguments without an error.

func acceptsOf(t *testing.T, b api.Brand, word string) bool {
	t.Helper()
	ok, e := Accepts(b, word)
	check(t, e, b, word)
	return ok
}

func smallestOf(t *testing.T, b api.Brand) api.Brand {
	t.Helper()
	small, e := Smallest(b)
	check(t, e, b)
	return small
}

func monoidOf(t *testing.T, b api.Brand) []string {
	t.Helper()
	words, e := Monoid(b)
	check(t, e, b)
	return words
}

func elementOf(t *testing.T, b api.Brand, word string) string {
	t.Helper()
	least, e := Element(b, word)
	check(t, e, b, word)
	return least
}

func idempotentsOf(t *testing.T, b api.Brand) []string {
	t.Helper()
	words, e := Idempotents(b)
	check(t, e, b)
	return words
}

// classesOf returns what Left, Right or Classes returns.
func classesOf(t *testing.T, of func(api.Brand) ([][]string, api.Errno), b api.Brand) [][]string {
	t.Helper()
	classes, e := of(b)
	check(t, e, b)
	return classes
}

func check(t *testing.T, e api.Errno, arguments ...any) {
	t.Helper()
	if e != api.OK {
		t.Fatalf("%v: error %d", arguments, e)
	}
}

// quoted writes values, of which nil and empty slices are the same.
func quoted(x any) string {
	return fmt.Sprintf("%q", x)
}

func same(a, b any) bool {
	return quoted(a) == quoted(b)
}

func sameBrand(a, b api.Brand) bool {
	return fmt.Sprint(a) == fmt.Sprint(b)
}
