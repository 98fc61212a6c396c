package kin

import (
	"cmp"
	"math"
	"slices"

	"pommel/api"
	"pommel/exact"
)

// maxSplits is how many splits a list may have, and maxPart how many digits the numerator and the denominator of a length.
const (
	maxSplits = 200
	maxPart   = 12
)

// set is a set of bits: the number's digit of the value 1 << i is 1 if the bit i is in it.
type set uint

func (s set) has(bit int) bool {
	return s>>bit&1 == 1
}

// list returns the bits that are in a set, rising.
func (s set) list() []int {
	var bits []int
	for bit := range api.MaxKin {
		if s.has(bit) {
			bits = append(bits, bit)
		}
	}
	return bits
}

// allBits returns the set of n bits.
func allBits(n int) set {
	return 1<<n - 1
}

// half returns half of a number of units, if so many of them make 1.
func half[N ~int](units, one N) exact.Ratio {
	return exact.Whole(int(units)).Over(exact.Whole(int(2 * one)))
}

// listed puts splits in the order in which they are listed.
func listed(splits []api.Split) []api.Split {
	slices.SortFunc(splits, func(a, b api.Split) int {
		return cmp.Or(cmp.Compare(len(a.Set), len(b.Set)), slices.Compare(a.Set, b.Set))
	})
	return splits
}

// twiceBuneman is what Buneman's length is half of the least value of.
func twiceBuneman(sums [3]int) int {
	return min(sums[1], sums[2]) - sums[0]
}

// twiceIsolation is what the isolation is half of the least value of.
func twiceIsolation(sums [3]int) int {
	return max(sums[0], sums[1], sums[2]) - sums[0]
}

// longSplits returns the splits with a length above 0, which is half of the least value that twice has of three sums.
func longSplits(d [][]int, twice func(sums [3]int) int) []api.Split {
	var splits []api.Split
	all := allBits(len(d))
	for in := set(2); in <= all; in += 2 { // the even numbers are the sets without the bit 0
		if least := leastOf(d, in.list(), (all &^ in).list(), twice); least > 0 {
			splits = append(splits, api.Split{Set: in.list(), Length: half(least, 1).Num()})
		}
	}
	return listed(splits)
}

// leastOf returns the least value for two bits of one side and two of the other side of a split.
func leastOf(d [][]int, in, out []int, value func(sums [3]int) int) int {
	least := math.MaxInt
	for _, i := range in {
		for _, j := range in {
			for _, k := range out {
				for _, l := range out {
					least = min(least, value(threeSums(d, i, j, k, l)))
				}
			}
		}
	}
	return least
}

// branch is a split that has been read.
type branch struct {
	in     set
	length exact.Ratio
}

// readSplits reads a list of splits of n bits.
func readSplits(n int, splits []api.Split) ([]branch, api.Errno) {
	if n < 1 || n > api.MaxKin {
		return nil, api.ErrArg
	}
	if len(splits) > maxSplits {
		return nil, api.ErrForm
	}
	var branches []branch
	for _, s := range splits {
		in, isSet := readSet(n, s.Set)
		length, isNum := exact.Read(s.Length, maxPart)
		if !isSet || !isNum || length.Sign() < 0 {
			return nil, api.ErrForm
		}
		branches = append(branches, branch{in: in, length: length})
	}
	return branches, api.OK
}

// readSet reads the set of a split, and reports whether it is one.
func readSet(n int, list []int) (set, bool) {
	var in set
	last := 0
	for _, bit := range list {
		if bit <= last || bit >= n {
			return 0, false
		}
		in |= 1 << bit
		last = bit
	}
	return in, in != 0
}

// sumsOf returns for any two bits the sum of the lengths of the branches between them.
func sumsOf(n int, branches []branch) [][]api.Num {
	sums := make([][]api.Num, n)
	for i := range sums {
		sums[i] = make([]api.Num, n)
		for j := range i + 1 {
			far := between(i, j, branches).Num()
			sums[i][j], sums[j][i] = far, far
		}
	}
	return sums
}

func between(i, j int, branches []branch) exact.Ratio {
	var sum exact.Ratio
	for _, b := range branches {
		if b.in.has(i) != b.in.has(j) {
			sum = sum.Plus(b.length)
		}
	}
	return sum
}

// areCompatible reports whether of any two branches the sets are apart, or one contains the other one.
func areCompatible(branches []branch) bool {
	for _, a := range branches {
		for _, b := range branches {
			common := a.in & b.in
			if common != 0 && common != a.in && common != b.in {
				return false
			}
		}
	}
	return true
}
