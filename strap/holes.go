package strap

import "pommel/api"

// checkHoles returns the error of a strap.
func checkHoles(holes []int) api.Errno {
	if len(holes) > api.MaxMarks {
		return api.ErrLong
	}
	if !rise(holes, api.MaxStrap) || holes[0] != 0 {
		return api.ErrForm
	}
	return api.OK
}

// rise reports whether there are numbers, and they rise strictly, none below 0 and none above a greatest one.
func rise(list []int, greatest int) bool {
	for i, n := range list {
		if n < 0 || n > greatest || i > 0 && n <= list[i-1] {
			return false
		}
	}
	return len(list) > 0
}

func lengthOf(holes []int) int {
	return holes[len(holes)-1]
}

// distances returns, for each number from 0 to a length that no distance exceeds, how many pairs of holes have that distance.
func distances(holes []int, length int) []int {
	counts := make([]int, length+1)
	for i, to := range holes {
		for _, from := range holes[:i] {
			counts[to-from]++
		}
	}
	return counts
}

// twice returns the first two pairs of holes with the least distance that comes from two, or nil if the strap is single.
func twice(holes []int) []int {
	for distance, count := range distances(holes, lengthOf(holes)) {
		if count > 1 {
			return pairsWith(holes, distance)[:4]
		}
	}
	return nil
}

// pairsWith returns the pairs of holes that have a distance, one after the other, by their first hole.
func pairsWith(holes []int, distance int) []int {
	var pairs []int
	for i, from := range holes {
		for _, to := range holes[i+1:] {
			if to-from == distance {
				pairs = append(pairs, from, to)
			}
		}
	}
	return pairs
}

// misses returns the numbers from 1 to a length that are no distances.
func misses(holes []int, length int) []int {
	counts := distances(holes, length)
	var missing []int
	for n := range counts {
		if n > 0 && counts[n] == 0 {
			missing = append(missing, n)
		}
	}
	return missing
}
