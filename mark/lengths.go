package mark

import (
	"cmp"
	"slices"
	"strconv"

	"pommel/api"
)

const minWeights = 2

// whole is how many strings of MaxBits letters there are. A word takes those that it begins, and no other word of a plain code takes one of them.
const whole = 1 << api.MaxBits

// kind is which lengths are looked for.
type kind int

const (
	anyhow  kind = iota // those of any plain code
	inOrder             // those of a plain code whose words rise in byte order
)

// checkLengths returns what is wrong with lengths.
func checkLengths(lengths []int) api.Errno {
	return checkNumbers(lengths, 1, 1, api.MaxBits)
}

// checkWeights returns what is wrong with weights.
func checkWeights(weights []int) api.Errno {
	return checkNumbers(weights, minWeights, 0, api.MaxWeight)
}

// checkNumbers returns what is wrong with a list of at least so many numbers that are in a range.
func checkNumbers(list []int, fewest, least, greatest int) api.Errno {
	if len(list) > api.MaxMarked {
		return api.ErrLong
	}
	outside := func(n int) bool { return n < least || n > greatest }
	if len(list) < fewest || slices.ContainsFunc(list, outside) {
		return api.ErrArg
	}
	return api.OK
}

// share returns how many strings a word of a length takes.
func share(length int) int {
	return whole >> length
}

// after returns how many strings are taken, or can no longer be, when a word of a length comes after others.
func (k kind) after(taken, length int) int {
	size := share(length)
	if gap := taken % size; k == inOrder && gap > 0 {
		taken += size - gap // a word takes strings from a multiple of their number on; words in order do not come back to those that it skips
	}
	return taken + size
}

// byLength returns the numbers of lengths, the least length first.
func byLength(lengths []int) []int {
	var order []int
	for i := range lengths {
		order = append(order, i)
	}
	slices.SortStableFunc(order, func(i, j int) int { return cmp.Compare(lengths[i], lengths[j]) })
	return order
}

// wordsInOrder returns the least words in order that have these lengths, and whether there are any.
func wordsInOrder(lengths []int) ([]string, bool) {
	var words []string
	taken := 0
	for _, length := range lengths {
		end := inOrder.after(taken, length)
		if end > whole {
			return nil, false
		}
		words = append(words, letters(end/share(length)-1, length))
		taken = end
	}
	return words, true
}

// letters returns a number as a string of so many letters.
func letters(n, length int) string {
	marked := n | 1<<length // so that the zeros at its beginning are written
	return strconv.FormatInt(int64(marked), 2)[1:]
}

// never is the cost of what cannot be: more than all lengths can cost.
const never = api.MaxMarked*api.MaxBits*api.MaxWeight + 1

// option is a length for a weight, and the least cost of that weight and of all after it.
type option struct {
	length, cost int
}

// bestLengths returns the first of the best lengths of a kind, and their cost.
func bestLengths(k kind, weights []int) ([]int, int, api.Errno) {
	if e := checkWeights(weights); e != api.OK {
		return nil, 0, e
	}
	options := k.options(weights)
	var lengths []int
	taken := 0
	for i := range weights {
		length := options[i][taken].length
		lengths = append(lengths, length)
		taken = k.after(taken, length)
	}
	return lengths, options[0][0].cost, api.OK
}

// options returns the best option for each weight, and for each number of strings that are taken before it; after the last weight nothing costs anything.
func (k kind) options(weights []int) [][]option {
	table := make([][]option, len(weights)+1)
	table[len(weights)] = make([]option, whole+1)
	for i := len(weights) - 1; i >= 0; i-- {
		for taken := range whole + 1 {
			table[i] = append(table[i], k.best(weights[i], taken, table[i+1]))
		}
	}
	return table
}

// best returns the cheapest option for a weight, of several ones the one with the least length.
func (k kind) best(weight, taken int, rest []option) option {
	best := option{cost: never}
	for length := 1; length <= api.MaxBits; length++ {
		end := k.after(taken, length)
		if end > whole {
			continue
		}
		if cost := weight*length + rest[end].cost; cost < best.cost {
			best = option{length, cost}
		}
	}
	return best
}
