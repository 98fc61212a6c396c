package mark

import (
	"cmp"
	"slices"
	"strings"

	"pommel/api"
	"pommel/exact"
)

// checkCode returns what is wrong with a code, or with a message.
func checkCode(words []string, text string) api.Errno {
	if len(words) > api.MaxMarked || len(text) > api.MaxText {
		return api.ErrLong
	}
	if len(words) == 0 || !isBinary(text) {
		return api.ErrForm
	}
	for i, word := range words {
		if len(word) < 1 || len(word) > api.MaxBits || !isBinary(word) || slices.Contains(words[:i], word) {
			return api.ErrForm
		}
	}
	return api.OK
}

// isBinary reports whether a string has only the letters 0 and 1.
func isBinary(text string) bool {
	return strings.Trim(text, "01") == ""
}

// written returns words written one after the other.
func written(words ...string) string {
	var text strings.Builder
	for _, word := range words {
		text.WriteString(word)
	}
	return text.String()
}

// chase is two readings that differ from the first word on, of which the one that is behind has written a beginning of what the other one has.
type chase struct {
	ahead, behind []string
	text          string // what the one that is ahead has written
	rest          string // what the other one has still to write
}

func newChase(ahead, behind []string) chase {
	text := written(ahead...)
	return chase{ahead: ahead, behind: behind, text: text, rest: text[len(written(behind...)):]}
}

// with returns the chase in which the reading that is behind has one word more, and whether they still write the same.
func (c chase) with(word string) (chase, bool) {
	longer := append(slices.Clone(c.behind), word)
	switch {
	case strings.HasPrefix(c.rest, word):
		return newChase(c.ahead, longer), true
	case strings.HasPrefix(word, c.rest):
		return newChase(longer, c.ahead), true
	}
	return chase{}, false
}

// compareTexts compares strings by their length, and then in byte order.
func compareTexts(a, b string) int {
	return cmp.Or(cmp.Compare(len(a), len(b)), strings.Compare(a, b))
}

// leastUnclear returns the least text with two readings, and whether there is one. Two chases with the same rest go on in the same ways, so that only the one with the least text is followed.
func leastUnclear(words []string) (string, bool) {
	open, done := map[string]chase{}, map[string]bool{} // by their rests
	meet := func(c chase) {
		known, ok := open[c.rest]
		if !done[c.rest] && (!ok || compareTexts(c.text, known.text) < 0) {
			open[c.rest] = c
		}
	}
	for i, word := range words {
		for _, other := range words[:i] {
			if c, ok := newChase([]string{other}, nil).with(word); ok {
				meet(c)
			}
		}
	}
	for len(open) > 0 {
		c := nearest(open)
		if c.rest == "" {
			return c.text, true
		}
		delete(open, c.rest)
		done[c.rest] = true
		for _, word := range words {
			if next, ok := c.with(word); ok {
				meet(next)
			}
		}
	}
	return "", false
}

// nearest returns the chase with the least text, of several ones that with the least rest.
func nearest(open map[string]chase) chase {
	var best chase
	for _, c := range open {
		if best.ahead == nil || cmp.Or(compareTexts(c.text, best.text), compareTexts(c.rest, best.rest)) < 0 {
			best = c
		}
	}
	return best
}

// countReadings returns for each place of a message how many readings it has from there on.
func countReadings(words []string, text string) []exact.Ratio {
	counts := make([]exact.Ratio, len(text)+1)
	counts[len(text)] = exact.Whole(1)
	for at := len(text) - 1; at >= 0; at-- {
		for _, word := range words {
			if strings.HasPrefix(text[at:], word) {
				counts[at] = counts[at].Plus(counts[at+len(word)])
			}
		}
	}
	return counts
}

// firstReading returns the lexicographically least reading of a message, and whether there is one.
func firstReading(words []string, text string) ([]int, bool) {
	counts := countReadings(words, text)
	if counts[0].Sign() == 0 {
		return nil, false
	}
	var reading []int
	for at := 0; at < len(text); {
		i := slices.IndexFunc(words, func(word string) bool {
			return strings.HasPrefix(text[at:], word) && counts[at+len(word)].Sign() > 0
		})
		reading = append(reading, i)
		at += len(words[i])
	}
	return reading, true
}
