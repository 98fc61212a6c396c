package mark

import (
	"math/big"
	"math/rand"
	"slices"
	"strings"
	"testing"

	"pommel/api"
)

// The functions here compute by the chapter's definitions, however long it takes; the tests compare the package with them.

// stringsOf returns all strings of so many letters, in byte order.
func stringsOf(length int) []string {
	list := []string{""}
	for range length {
		var longer []string
		for _, text := range list {
			longer = append(longer, text+"0", text+"1")
		}
		list = longer
	}
	return list
}

// stringsUpTo returns all strings of 1 to so many letters, the shorter ones first, then in byte order.
func stringsUpTo(length int) []string {
	var list []string
	for n := 1; n <= length; n++ {
		list = append(list, stringsOf(n)...)
	}
	return list
}

// eachList yields all lists of so many numbers from least to greatest, in lexicographic order.
func eachList(count, least, greatest int) func(yield func([]int) bool) {
	return func(yield func([]int) bool) {
		list := slices.Repeat([]int{least}, count)
		for {
			if !yield(slices.Clone(list)) {
				return
			}
			i := count - 1
			for i >= 0 && list[i] == greatest {
				list[i] = least
				i--
			}
			if i < 0 {
				return
			}
			list[i]++
		}
	}
}

// eachCode yields all lists of so many different words of a list.
func eachCode(count int, from []string) func(yield func([]string) bool) {
	return func(yield func([]string) bool) {
		for list := range eachList(count, 0, len(from)-1) {
			var words []string
			for _, i := range list {
				if !slices.Contains(words, from[i]) {
					words = append(words, from[i])
				}
			}
			if len(words) == count && !yield(words) {
				return
			}
		}
	}
}

// sumOf returns the sum of 2^(-length).
func sumOf(lengths []int) *big.Rat {
	sum := new(big.Rat)
	for _, length := range lengths {
		sum.Add(sum, big.NewRat(1, 1<<length))
	}
	return sum
}

func fits(lengths []int) bool {
	return sumOf(lengths).Cmp(big.NewRat(1, 1)) <= 0
}

func lengthsOf(words []string) []int {
	var lengths []int
	for _, word := range words {
		lengths = append(lengths, len(word))
	}
	return lengths
}

func costOf(lengths, weights []int) int {
	cost := 0
	for i, weight := range weights {
		cost += weight * lengths[i]
	}
	return cost
}

func sumOfWeights(weights []int) int {
	return costOf(slices.Repeat([]int{1}, len(weights)), weights)
}

// beginning returns the first two numbers such that the one word begins the other one, or nil.
func beginning(words []string) []int {
	for i := range words {
		for j := range words {
			if i != j && len(words[i]) <= len(words[j]) && words[j][:len(words[i])] == words[i] {
				return []int{i, j}
			}
		}
	}
	return nil
}

// allReadings returns all readings of a message, in lexicographic order.
func allReadings(words []string, text string) [][]int {
	if text == "" {
		return [][]int{{}}
	}
	var all [][]int
	for i, word := range words {
		rest, ok := strings.CutPrefix(text, word)
		if !ok {
			continue
		}
		for _, reading := range allReadings(words, rest) {
			all = append(all, append([]int{i}, reading...))
		}
	}
	return all
}

// countOf returns how many readings a text has, by the words that may end each of its beginnings.
func countOf(words []string, text string) *big.Int {
	counts := []*big.Int{big.NewInt(1)}
	for end := 1; end <= len(text); end++ {
		count := new(big.Int)
		for _, word := range words {
			if strings.HasSuffix(text[:end], word) {
				count.Add(count, counts[end-len(word)])
			}
		}
		counts = append(counts, count)
	}
	return counts[len(text)]
}

// two is what two readers of the same text have still to read of the words that they are in.
type two struct{ a, b string }

// leastTwice returns the least text that two readers who begin with different words both read to the end, or "": they read letter by letter,
// and all pairs of rests to which the same text leads go on together.
func leastTwice(words []string) string {
	type group struct {
		text  string
		pairs []two
	}
	seen := map[two]bool{}
	var start group
	for _, a := range words {
		for _, b := range words {
			if a != b {
				start.pairs = append(start.pairs, two{a, b})
			}
		}
	}
	groups := []group{start}
	for i := 0; i < len(groups); i++ {
		for _, letter := range []string{"0", "1"} {
			next := group{text: groups[i].text + letter}
			for _, pair := range groups[i].pairs {
				if pair.a[:1] != letter || pair.b[:1] != letter {
					continue
				}
				rest := two{pair.a[1:], pair.b[1:]}
				if rest == (two{}) {
					return next.text
				}
				for _, p := range begun(words, rest) {
					if !seen[p] {
						seen[p] = true
						next.pairs = append(next.pairs, p)
					}
				}
			}
			if next.pairs != nil {
				groups = append(groups, next)
			}
		}
	}
	return ""
}

// begun returns what two readers, one of whom may be at the end of a word, can have to read next.
func begun(words []string, rest two) []two {
	if rest.a != "" && rest.b != "" {
		return []two{rest}
	}
	var pairs []two
	for _, word := range words {
		if rest.a == "" {
			pairs = append(pairs, two{word, rest.b})
		} else {
			pairs = append(pairs, two{rest.a, word})
		}
	}
	return pairs
}

func reversed(word string) string {
	letters := []byte(word)
	slices.Reverse(letters)
	return string(letters)
}

func allReversed(words []string) []string {
	var list []string
	for _, word := range words {
		list = append(list, reversed(word))
	}
	return list
}

// someText returns a random text of so many letters.
func someText(r *rand.Rand, length int) string {
	letters := make([]byte, length)
	for i := range letters {
		letters[i] = '0' + byte(r.Intn(2))
	}
	return string(letters)
}

// someCode returns a random code of at most so many words, which have at most so many letters.
func someCode(r *rand.Rand, count, length int) []string {
	var words []string
	for range 1 + r.Intn(count) {
		if word := someText(r, 1+r.Intn(length)); !slices.Contains(words, word) {
			words = append(words, word)
		}
	}
	return words
}

// someLengths returns random lengths with a sum of at most 1, often of just 1.
func someLengths(r *rand.Rand, count int) []int {
	lengths := []int{1, 1}
	for len(lengths) < count {
		i := r.Intn(len(lengths))
		if lengths[i] == api.MaxBits {
			continue
		}
		lengths[i]++
		lengths = append(lengths, lengths[i])
	}
	if r.Intn(3) == 0 {
		lengths = lengths[1:]
	}
	r.Shuffle(len(lengths), func(i, j int) { lengths[i], lengths[j] = lengths[j], lengths[i] })
	return lengths
}

// somePlain returns a random plain code.
func somePlain(t *testing.T, r *rand.Rand) []string {
	t.Helper()
	words, e := Plain(someLengths(r, 2+r.Intn(api.MaxMarked-1)))
	if e != api.OK {
		t.Fatalf("Plain: %d", e)
	}
	flip := someText(r, api.MaxBits)
	for i, word := range words { // so that the words are not only those that Plain makes
		letters := []byte(word)
		for at := range letters {
			letters[at] ^= flip[at] - '0'
		}
		words[i] = string(letters)
	}
	return words
}

// writtenBy returns the text of a reading.
func writtenBy(words []string, reading []int) string {
	text := ""
	for _, i := range reading {
		text += words[i]
	}
	return text
}

// clearCodes returns codes that are clear, but not plain.
func clearCodes() [][]string {
	return [][]string{
		{"0", "01", "11"}, {"0", "01", "011", "0111"}, {"1", "10"}, {"1", "10", "100"}, {"1", "10", "00"}, {"0", "001"}, {"01", "0110", "11"},
		{"0", "01", "0111111111", "1111111111"}, {"1", "10", "100", "1000", "10000", "100000", "1000000", "10000000", "100000000", "1000000000"},
		{"00", "10", "100", "11", "110"},
	}
}

// zeros returns the words of 1 to so many zeros.
func zeros(count int) []string {
	var words []string
	for n := 1; n <= count; n++ {
		words = append(words, strings.Repeat("0", n))
	}
	return words
}

// longCodes returns codes of which only long texts are read twice, found by a random search; longTexts are the lengths of the least ones.
func longCodes() [][]string {
	var codes [][]string
	for _, words := range []string{
		"1011011 01101101 11 110110110",
		"11111101 1110111111 1111 1011111011 110111110 011110111",
		"10010010 1101010 101010011 1101101 0110110110 1101101100 1010010101 010101001 010010100 001000110 001101101 1011011011",
		"0100010001 10011000 0010001000 000100010 110001100 011000100 1110111111 1011111011 11101111 1111011 1000101 0011000110",
		"100111011 1110100111 011101001 0100111010 1001010011 1101001110 10110101 110010010 001110100 1100 1010011101 01010011",
		"0100011000 1100001100 1000000110 0000110000 1110000110 10111000 001001000 0001100010 0001000100 011000011 001100001 10000",
	} {
		codes = append(codes, strings.Fields(words))
	}
	return codes
}

func longTexts() []int {
	return []int{47, 101, 199, api.MaxText, 216, 222}
}
