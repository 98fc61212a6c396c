package brand

import (
	"iter"
	"math/bits"
	"slices"

	"pommel/api"
)

// isBrand reports whether a brand is valid.
func isBrand(b api.Brand) bool {
	n := len(b.Next)
	if n < 1 || n > api.MaxStates || len(b.Good) != n || signs(b) < 1 || signs(b) > api.MaxSigns {
		return false
	}
	for _, row := range b.Next {
		if len(row) != signs(b) {
			return false
		}
		if slices.ContainsFunc(row, func(state int) bool { return state < 0 || state >= n }) {
			return false
		}
	}
	return true
}

// checkWord returns what is wrong with a word for a valid brand.
func checkWord(b api.Brand, word string) api.Errno {
	if len(word) > api.MaxWord {
		return api.ErrLong
	}
	for i := range len(word) {
		if sign := int(word[i]) - 'a'; sign < 0 || sign >= signs(b) {
			return api.ErrForm
		}
	}
	return api.OK
}

// signs returns how many letters a brand with a state has.
func signs(b api.Brand) int {
	return len(b.Next[0])
}

// letter returns the letter of a number as a word.
func letter(sign int) string {
	return string(rune('a' + sign))
}

// end returns the state to which a word leads.
func end(b api.Brand, word string) int {
	state := 0
	for i := range len(word) {
		state = b.Next[state][word[i]-'a']
	}
	return state
}

// reached yields all that words lead to from a start, each once, with the least word that leads there; the least word comes first.
func reached[T comparable](start T, signs int, step func(at T, sign int) T) iter.Seq2[string, T] {
	return func(yield func(string, T) bool) {
		words, found, seen := []string{""}, []T{start}, map[T]bool{start: true}
		for i := 0; i < len(found); i++ { // found grows
			if !yield(words[i], found[i]) {
				return
			}
			for sign := range signs {
				next := step(found[i], sign)
				if seen[next] {
					continue
				}
				seen[next] = true
				words, found = append(words, words[i]+letter(sign)), append(found, next)
			}
		}
	}
}

// difference returns the least word that is accepted either from the state s of b or from the state t of c, and whether there is one.
func difference(b api.Brand, s int, c api.Brand, t int) (string, bool) {
	step := func(at api.Pair, sign int) api.Pair {
		return api.Pair{A: b.Next[at.A][sign], B: c.Next[at.B][sign]}
	}
	for word, at := range reached(api.Pair{A: s, B: t}, signs(b), step) {
		if b.Good[at.A] != c.Good[at.B] {
			return word, true
		}
	}
	return "", false
}

// smallest returns the smallest form of a brand.
func smallest(b api.Brand) api.Brand {
	var kept []int // of the states from which the same words are accepted, the one that is reached first
	number := func(state int) int {
		return slices.IndexFunc(kept, func(k int) bool {
			_, differ := difference(b, state, b, k)
			return !differ
		})
	}
	step := func(at, sign int) int { return b.Next[at][sign] }
	for _, state := range reached(0, signs(b), step) {
		if number(state) < 0 {
			kept = append(kept, state)
		}
	}
	var small api.Brand
	for _, state := range kept {
		var row []int
		for _, next := range b.Next[state] {
			row = append(row, number(next))
		}
		small.Next, small.Good = append(small.Next, row), append(small.Good, b.Good[state])
	}
	return small
}

// reset returns the least word that leads all states to one, and whether there is one.
func reset(b api.Brand) (string, bool) {
	step := func(at uint, sign int) uint { // sets of states
		var next uint
		for state, row := range b.Next {
			next |= at >> state & 1 << row[sign]
		}
		return next
	}
	all := uint(1)<<len(b.Next) - 1
	for word, at := range reached(all, signs(b), step) {
		if bits.OnesCount(at) == 1 {
			return word, true
		}
	}
	return "", false
}
