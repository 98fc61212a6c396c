package brand

import (
	"cmp"
	"strings"

	"pommel/api"
)

const (
	maxPart     = 3    // letters of a part
	maxMeetings = 5000 // pairs of a state and a set of parts
)

// parts is a set of words of at most maxPart letters. The empty word has the number 0; a word of the number p, followed by the letter of the number s, has the number MaxSigns·p + 1 + s, so that shorter words have lower numbers.
type parts uint64

// noLetters has just the empty word.
const noLetters parts = 1

// with returns the parts of length k of a word with one more letter.
func (p parts) with(sign, k int) parts {
	shorter := 0 // how many words have fewer than k letters
	for range k {
		shorter = api.MaxSigns*shorter + 1
	}
	all := p
	for part := range shorter {
		if p>>part&1 == 1 {
			all |= 1 << (api.MaxSigns*part + 1 + sign)
		}
	}
	return all
}

// meeting is a state and the parts of a word that leads to it.
type meeting struct {
	state int
	parts parts
}

// twin is the least word with some parts that is accepted, and the least one that is not.
type twin struct {
	good, bad       string
	hasGood, hasBad bool
}

// allTwins returns the twins of all sets of parts of length k that words have.
func allTwins(small api.Brand, k int) ([]twin, api.Errno) {
	step := func(at meeting, sign int) meeting {
		return meeting{small.Next[at.state][sign], at.parts.with(sign, k)}
	}
	var twins []twin
	numbers := map[parts]int{}
	count := 0
	for word, at := range reached(meeting{0, noLetters}, signs(small), step) {
		if count++; count > maxMeetings {
			return nil, api.ErrFull
		}
		number, known := numbers[at.parts]
		if !known {
			number = len(twins)
			numbers[at.parts] = number
			twins = append(twins, twin{})
		}
		twins[number].meet(word, small.Good[at.state])
	}
	return twins, api.OK
}

// meet keeps a word if it is the first one of its kind.
func (t *twin) meet(word string, good bool) {
	if good && !t.hasGood {
		t.good, t.hasGood = word, true
	}
	if !good && !t.hasBad {
		t.bad, t.hasBad = word, true
	}
}

// leastTwins returns the words of the twin of which the longer one is the shortest, then the first one the least; it reports whether any twin has two words.
func leastTwins(twins []twin) (string, string, bool) {
	var least twin
	for _, t := range twins {
		if !t.hasGood || !t.hasBad {
			continue
		}
		if !least.hasGood || cmp.Or(cmp.Compare(t.longer(), least.longer()), compareWords(t.good, least.good)) < 0 {
			least = t
		}
	}
	return least.good, least.bad, least.hasGood
}

func (t twin) longer() int {
	return max(len(t.good), len(t.bad))
}

// compareWords compares words by their length, and then in byte order.
func compareWords(a, b string) int {
	return cmp.Or(cmp.Compare(len(a), len(b)), strings.Compare(a, b))
}
