package mark

import (
	"math/big"
	"math/rand"
	"slices"
	"strings"
	"testing"

	"pommel/api"
)

// checkPlain checks IsPlain by the words themselves.
func checkPlain(t *testing.T, words []string) {
	t.Helper()
	pair, e := IsPlain(words)
	want, wanted := beginning(words), api.OK
	if want == nil {
		wanted = api.ErrNone
	}
	if !slices.Equal(pair, want) || e != wanted {
		t.Errorf("IsPlain(%q) = %v, %d, want %v", words, pair, e, want)
	}
}

func TestIsPlain(t *testing.T) {
	for _, c := range []struct {
		words string
		want  []int // nil if the code is plain
	}{
		{"0", nil},
		{"1111111111", nil},
		{"0 1", nil},
		{"0 10 11", nil},
		{"01 10", nil},
		{"0 01", []int{0, 1}},
		{"01 0", []int{1, 0}},
		{"01 1", nil}, // it ends the other one
		{"1 0 01", []int{1, 2}},
		{"11 01 0 1", []int{2, 1}}, // not 3 0
		{"01 1 0 11", []int{1, 3}},
		{"1 01 0 11 10", []int{0, 3}},
		{"011 0 01", []int{1, 0}},
		{"00 0 000", []int{0, 2}},
		{"000 00 0", []int{1, 0}},
		{"0000000001 0000000000 000000000", []int{2, 0}},
		{"1 00 01 010 011 0100 0101 0110 0111 01000 01001 01010", []int{2, 3}},
		{"0000 0001 0010 0011 0100 0101 0110 0111 1000 1001 1010 1011", nil},
		{"0000 0001 0010 0011 0100 0101 0110 0111 1000 1001 1010 100", []int{11, 8}},
	} {
		words := strings.Fields(c.words)
		pair, e := IsPlain(words)
		if !slices.Equal(pair, c.want) || (e == api.ErrNone) != (c.want == nil) {
			t.Errorf("IsPlain(%q) = %v, %d, want %v", words, pair, e, c.want)
		}
	}
	for count := 1; count <= 3; count++ {
		for words := range eachCode(count, stringsUpTo(3)) {
			checkPlain(t, words)
		}
	}
	r := rand.New(rand.NewSource(8))
	for range 1000 {
		checkPlain(t, someCode(r, api.MaxMarked, 5))
		checkPlain(t, someCode(r, api.MaxMarked, api.MaxBits))
		checkPlain(t, somePlain(t, r))
	}
}

// checkClear checks Clear with two readers who read letter by letter (P2, P3 and C7), and returns its text.
func checkClear(t *testing.T, words []string) string {
	t.Helper()
	text, e := Clear(words)
	want, wanted := leastTwice(words), api.OK
	if want == "" {
		wanted = api.ErrNone
	}
	if text != want || e != wanted {
		t.Errorf("Clear(%q) = %q, %d, want %q", words, text, e, want)
	}
	if e != api.OK {
		return ""
	}
	if countOf(words, text).Cmp(big.NewInt(2)) < 0 {
		t.Errorf("Clear(%q) = %q, which has %s readings", words, text, countOf(words, text))
	}
	count, f := Readings(words, text)
	switch {
	case len(text) > api.MaxText && f != api.ErrLong:
		t.Errorf("Readings(%q, %q) = %s, %d", words, text, count, f)
	case len(text) <= api.MaxText && (f != api.OK || count == "0" || count == "1"):
		t.Errorf("Readings(%q, %q) = %s, %d", words, text, count, f)
	}
	return text
}

func TestClear(t *testing.T) {
	for _, c := range []struct{ words, want string }{
		{"0 01 10", "010"},
		{"0 01 11", ""},
		{"0", ""},
		{"1010101010", ""},
		{"0 1", ""},
		{"0 00", "00"},
		{"00 0", "00"},
		{"00 000", "00000"},
		{"000 00", "00000"},
		{"0 1 00 11", "00"},
		{"1 0 11 00", "00"}, // of the same length, the first one in byte order
		{"1 11 00 000", "11"},
		{"00 000 10 1010", "1010"}, // the shorter one, though 00000 comes first in byte order
		{"0 01 1", "01"},
		{"10 1 0", "10"},
		{"01 10 010", "01010"},
		{"1 011 01110 1110 10011", "111011"},
		{"01 10 0110", "0110"},
		{"0 010 01 10", "010"},
		{"0101 01", "0101"},
		{"010 01010", ""}, // they do not commute
		{"000000000 0000000000", strings.Repeat("0", 19)},
		{"00000 0000000000", strings.Repeat("0", 10)},
	} {
		words := strings.Fields(c.words)
		if text := checkClear(t, words); text != c.want {
			t.Errorf("Clear(%q) = %q, want %q", words, text, c.want)
		}
	}
	r := rand.New(rand.NewSource(9))
	unclear := 0
	for range 3000 {
		words := someCode(r, 6, 6)
		text := checkClear(t, words)
		if text != "" {
			unclear++
		}
		r.Shuffle(len(words), func(i, j int) { words[i], words[j] = words[j], words[i] })
		if again, _ := Clear(words); again != text {
			t.Errorf("Clear(%q) = %q, in another order %q", words, again, text)
		}
	}
	for range 300 {
		if checkClear(t, someCode(r, api.MaxMarked, api.MaxBits)) != "" {
			unclear++
		}
	}
	if unclear < 500 {
		t.Errorf("only %d codes are not clear", unclear)
	}
}

// TestLongTexts: the text of Clear may be longer than a message.
func TestLongTexts(t *testing.T) {
	for i, words := range longCodes() {
		if text := checkClear(t, words); len(text) != longTexts()[i] {
			t.Errorf("Clear(%q) = %q, of %d letters", words, text, len(text))
		}
	}
}

// isTwice reports whether a short text has two readings.
func isTwice(words []string, text string) bool {
	counts := make([]int, len(text)+1)
	counts[0] = 1
	for end := range counts {
		for _, word := range words {
			if strings.HasSuffix(text[:end], word) {
				counts[end] += counts[end-len(word)]
			}
		}
	}
	return counts[len(text)] > 1
}

// TestC7: the text of Clear is the first one of all texts that has two readings; of a clear code, none of them has (C2, too).
func TestC7(t *testing.T) {
	for _, c := range []struct{ count, letters, text int }{{1, 4, 8}, {2, 3, 11}, {3, 3, 10}, {4, 3, 7}, {2, 5, 10}} {
		texts := stringsUpTo(c.text)
		for words := range eachCode(c.count, stringsUpTo(c.letters)) {
			if !slices.IsSorted(words) { // the order of the words is another test's
				continue
			}
			got, e := Clear(words)
			i := slices.IndexFunc(texts, func(text string) bool { return isTwice(words, text) })
			switch {
			case i >= 0 && (e != api.OK || got != texts[i]):
				t.Errorf("Clear(%q) = %q, %d, want %q", words, got, e, texts[i])
			case i < 0 && e != api.ErrNone && len(got) <= c.text:
				t.Errorf("Clear(%q) = %q, %d, but no text of up to %d letters is read twice", words, got, e, c.text)
			case beginning(words) == nil && e != api.ErrNone:
				t.Errorf("%q is plain, Clear: %q, %d", words, got, e)
			}
		}
	}
}

// TestC2: plain codes are clear, and so are they reversed (C6); these are seldom plain.
func TestC2(t *testing.T) {
	r := rand.New(rand.NewSource(10))
	others := 0
	for range 1000 {
		words := somePlain(t, r)
		checkPlain(t, words)
		back := allReversed(words)
		for _, code := range [][]string{words, back} {
			if text, e := Clear(code); e != api.ErrNone || text != "" {
				t.Errorf("Clear(%q) = %q, %d", code, text, e)
			}
		}
		if beginning(back) != nil {
			others++
		}
	}
	if others < 300 {
		t.Errorf("only %d reversed codes are not plain", others)
	}
}

// TestC6: a code is clear if it is, reversed; a text that is read twice is so, reversed.
func TestC6(t *testing.T) {
	r := rand.New(rand.NewSource(11))
	codes := slices.Concat(clearCodes(), longCodes())
	for range 2000 {
		codes = append(codes, someCode(r, 5, 5))
	}
	neither := 0 // clear, and plain neither as they are nor reversed
	for _, words := range codes {
		back := allReversed(words)
		text, e := Clear(words)
		other, f := Clear(back)
		if e != f || len(text) != len(other) {
			t.Errorf("Clear(%q) = %q, %d, reversed %q, %d", words, text, e, other, f)
		}
		if e == api.OK && countOf(back, reversed(text)).Cmp(big.NewInt(2)) < 0 {
			t.Errorf("Clear(%q) = %q, reversed not read twice", words, text)
		}
		if e == api.ErrNone && beginning(words) != nil && beginning(back) != nil {
			neither++
		}
	}
	for _, words := range clearCodes() {
		if text, e := Clear(words); e != api.ErrNone || beginning(words) == nil {
			t.Errorf("Clear(%q) = %q, %d", words, text, e)
		}
	}
	if neither < 10 {
		t.Errorf("only %d codes are clear and not plain in either direction", neither)
	}
}
