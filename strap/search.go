package strap

// maxSet is how many places may be in the set of a round strap that is looked for.
const maxSet = 6

// search looks for a set of numbers; fits makes it the kind of search that it is.
type search struct {
	size, greatest int                  // how many numbers the set has, and the greatest one that may be in it
	fits           func(set []int) bool // whether a set may begin the one that is looked for, and a whole one is it
}

// first returns the lexicographically least set with the number 0 of which each beginning fits, or nil if there is none.
func (s search) first() []int {
	return s.grown([]int{0})
}

// grown returns the least set that begins with another one.
func (s search) grown(set []int) []int {
	if !s.fits(set) {
		return nil
	}
	if len(set) == s.size {
		return set
	}
	last := set[len(set)-1]
	for more := range s.greatest - last {
		if found := s.grown(append(set, last+1+more)); found != nil {
			return found
		}
	}
	return nil
}

// shortestSingle tries the lengths from the one on that all distances need if each comes once.
func shortestSingle(k int) []int {
	isSingle := func(set []int) bool { return twice(set) == nil }
	for length := pairsOf(k); ; length++ {
		s := search{size: k, greatest: length, fits: isSingle}
		if holes := s.first(); holes != nil {
			return holes
		}
	}
}

func pairsOf(k int) int {
	return k * (k - 1) / 2
}

// sparsestFull tries the numbers of holes; the pairs that further holes make cannot have more distances than there are pairs.
func sparsestFull(length int) []int {
	for size := 2; ; size++ {
		canBeFull := func(set []int) bool {
			return len(misses(set, length)) <= pairsOf(size)-pairsOf(len(set))
		}
		s := search{size: size, greatest: length, fits: canBeFull}
		if holes := s.first(); holes != nil {
			return holes
		}
	}
}

// firstRound returns nil if there is no such set. There is none unless the differences are as many as they must be (T1); if they
// are, and none comes too often, each comes as often as it must. The least set has the place 0, as an even one that is moved is even.
func firstRound(v, k, often int) []int {
	if k*(k-1) != often*(v-1) {
		return nil
	}
	isRare := func(set []int) bool {
		for _, count := range (round{count: v, set: set}).differences() {
			if count > often {
				return false
			}
		}
		return true
	}
	return search{size: k, greatest: v - 1, fits: isRare}.first()
}
