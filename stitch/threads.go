package stitch

import (
	"math/bits"

	"pommel/api"
	"pommel/exact"
)

// maxPairs is how many pairs of letters may be given.
const maxPairs = 30

// threads is a number of letters, and which of them commute. No letter commutes with itself.
type threads struct {
	count   int
	commute [api.MaxLetters][api.MaxLetters]bool
}

func newThreads(k int, pairs []api.Pair) (threads, api.Errno) {
	if k < 1 || k > api.MaxLetters || len(pairs) > maxPairs {
		return threads{}, api.ErrArg
	}
	t := threads{count: k}
	for _, p := range pairs {
		if !t.has(p.A) || !t.has(p.B) || p.A == p.B {
			return threads{}, api.ErrArg
		}
		t.commute[p.A][p.B] = true
		t.commute[p.B][p.A] = true
	}
	return t, api.OK
}

func (t threads) has(letter int) bool {
	return letter >= 0 && letter < t.count
}

// checked returns threads if they and seams of them are valid. A seam that is too long comes before
// a byte that is no letter, also if they are in different seams.
func checked(k int, pairs []api.Pair, most int, seams ...string) (threads, api.Errno) {
	t, e := newThreads(k, pairs)
	if e != api.OK {
		return threads{}, e
	}
	for _, seam := range seams {
		if len(seam) > most {
			return threads{}, api.ErrLong
		}
	}
	for _, seam := range seams {
		for _, letter := range letters(seam) {
			if !t.has(letter) {
				return threads{}, api.ErrForm
			}
		}
	}
	return t, api.OK
}

// cliques returns, for each size, how many sets of letters commute with each other. Sets are bits of a number.
func (t threads) cliques() []int {
	var counts []int
	for set := range 1 << t.count {
		if !t.isClique(set) {
			continue
		}
		size := bits.OnesCount(uint(set))
		for len(counts) <= size {
			counts = append(counts, 0)
		}
		counts[size]++
	}
	return counts
}

func (t threads) isClique(set int) bool {
	for a := range t.count {
		for b := range a {
			if set>>a&1 == 1 && set>>b&1 == 1 && !t.commute[a][b] {
				return false
			}
		}
	}
	return true
}

// seams returns how many seams of n letters there are (Cartier and Foata): the sets of letters that can begin a seam
// count it once for each single letter, so those of two letters are taken off, those of three added again, and so on.
func (t threads) seams(n int) exact.Ratio {
	cliques := t.cliques()
	counts := []exact.Ratio{exact.Whole(1)}
	for length := 1; length <= n; length++ {
		var sum exact.Ratio
		for size := 1; size < len(cliques) && size <= length; size++ {
			term := exact.Whole(cliques[size]).Times(counts[length-size])
			if size%2 == 0 {
				term = term.Negated()
			}
			sum = sum.Plus(term)
		}
		counts = append(counts, sum)
	}
	return counts[n]
}
