package mark

import (
	"math/big"
	"math/rand"
	"slices"
	"strconv"
	"strings"
	"testing"

	"pommel/api"
)

func checkKraft(t *testing.T, lengths []int) {
	t.Helper()
	want := api.Num(strings.TrimSuffix(sumOf(lengths).String(), "/1"))
	if got, e := Kraft(lengths); got != want || e != api.OK {
		t.Errorf("Kraft(%v) = %s, %d, want %s", lengths, got, e, want)
	}
}

func TestKraft(t *testing.T) {
	for _, c := range []struct {
		lengths []int
		want    api.Num
	}{
		{[]int{1, 2, 2}, "1"},
		{[]int{2, 1, 2}, "1"},
		{[]int{1}, "1/2"},
		{[]int{2, 3}, "3/8"},
		{[]int{1, 1, 1}, "3/2"},
		{[]int{1, 1, 1, 1}, "2"},
		{[]int{api.MaxBits}, "1/1024"},
		{[]int{1, api.MaxBits}, "513/1024"},
		{[]int{1, 1, api.MaxBits}, "1025/1024"},
		{slices.Repeat([]int{1}, api.MaxMarked), "6"},
		{slices.Repeat([]int{api.MaxBits}, api.MaxMarked), "3/256"},
		{[]int{1, 2, 3, 4, 5, 6, 7, 8, 9, 10, 10}, "1"},
		{[]int{1, 2, 3, 4, 5, 6, 7, 8, 9, 10, 10, 10}, "1025/1024"},
	} {
		if got, e := Kraft(c.lengths); got != c.want || e != api.OK {
			t.Errorf("Kraft(%v) = %s, %d, want %s", c.lengths, got, e, c.want)
		}
	}
	for count := 1; count <= 3; count++ {
		for lengths := range eachList(count, 1, api.MaxBits) {
			checkKraft(t, lengths)
		}
	}
	r := rand.New(rand.NewSource(1))
	for range 500 {
		var lengths []int
		for range 1 + r.Intn(api.MaxMarked) {
			lengths = append(lengths, 1+r.Intn(api.MaxBits))
		}
		checkKraft(t, lengths)
	}
}

// leastWord returns the least string of a length that is greater than all words before it, and that none of them begins, or "".
func leastWord(length int, before ...string) string {
	for _, word := range stringsOf(length) {
		wrong := func(b string) bool { return word <= b || strings.HasPrefix(word, b) }
		if !slices.ContainsFunc(before, wrong) {
			return word
		}
	}
	return ""
}

// plainOf makes the code of Plain as the chapter says it, or returns nil.
func plainOf(lengths []int) []string {
	words := make([]string, len(lengths))
	var made []string
	for length := 1; length <= api.MaxBits; length++ {
		for i := range lengths {
			if lengths[i] != length {
				continue
			}
			word := leastWord(length, made...)
			if word == "" {
				return nil
			}
			words[i] = word
			made = append(made, word)
		}
	}
	return words
}

// risingOf makes the code of Rising as the chapter says it, or returns nil.
func risingOf(lengths []int) []string {
	words := []string{leastWord(lengths[0])}
	for i, length := range lengths[1:] {
		word := leastWord(length, words[i])
		if word == "" {
			return nil
		}
		words = append(words, word)
	}
	return words
}

// checkWords checks words against those of a definition; nil are none.
func checkWords(t *testing.T, what string, lengths []int, words []string, e api.Errno, want []string) {
	t.Helper()
	wanted := api.OK
	if want == nil {
		wanted = api.ErrNone
	}
	if !slices.Equal(words, want) || e != wanted {
		t.Errorf("%s(%v) = %q, %d, want %q", what, lengths, words, e, want)
	}
}

func checkMade(t *testing.T, lengths []int) {
	t.Helper()
	words, e := Plain(lengths)
	checkWords(t, "Plain", lengths, words, e, plainOf(lengths))
	if fits(lengths) != (e == api.OK) {
		t.Errorf("Plain(%v) = %q, %d, but the sum is %s", lengths, words, e, sumOf(lengths))
	}
	rising, f := Rising(lengths)
	checkWords(t, "Rising", lengths, rising, f, risingOf(lengths))
	if e == api.OK && (!slices.Equal(lengthsOf(words), lengths) || beginning(words) != nil) {
		t.Errorf("Plain(%v) = %q", lengths, words)
	}
	if f == api.OK && (!slices.Equal(lengthsOf(rising), lengths) || beginning(rising) != nil || !slices.IsSorted(rising)) {
		t.Errorf("Rising(%v) = %q", lengths, rising)
	}
}

func TestMadeWords(t *testing.T) {
	tens := slices.Repeat([]int{api.MaxBits}, api.MaxMarked)
	for _, c := range []struct {
		lengths       []int
		plain, rising string
	}{
		{[]int{2, 1, 2}, "10 0 11", ""},
		{[]int{2, 2, 1}, "10 11 0", "00 01 1"},
		{[]int{1}, "0", "0"},
		{[]int{3}, "000", "000"},
		{[]int{1, 1}, "0 1", "0 1"},
		{[]int{1, 1, 1}, "", ""},
		{[]int{1, 1, api.MaxBits}, "", ""},
		{[]int{api.MaxBits, 1, 1}, "", ""},
		{[]int{api.MaxBits}, "0000000000", "0000000000"},
		{[]int{3, 1}, "100 0", "000 1"}, // a gap
		{[]int{3, 2, 1}, "110 10 0", "000 01 1"},
		{[]int{1, 3, 2}, "0 110 10", "0 100 11"},
		{[]int{3, 2, 3, 2}, "100 00 101 01", "000 01 100 11"},
		{[]int{2, 2, 2, 2}, "00 01 10 11", "00 01 10 11"},
		{[]int{1, 2, 3, 4, 5, 6, 7, 8, 9, 10, 10},
			"0 10 110 1110 11110 111110 1111110 11111110 111111110 1111111110 1111111111", "0 10 110 1110 11110 111110 1111110 11111110 111111110 1111111110 1111111111"},
		{[]int{1, 2, 3, 4, 5, 6, 7, 8, 9, 10, 10, 10}, "", ""},
		{tens, strings.Join(stringsOf(api.MaxBits)[:api.MaxMarked], " "), strings.Join(stringsOf(api.MaxBits)[:api.MaxMarked], " ")},
	} {
		words, e := Plain(c.lengths)
		rising, f := Rising(c.lengths)
		if strings.Join(words, " ") != c.plain || (e == api.OK) != (c.plain != "") || strings.Join(rising, " ") != c.rising || (f == api.OK) != (c.rising != "") {
			t.Errorf("%v: Plain %q, %d, Rising %q, %d", c.lengths, words, e, rising, f)
		}
	}
	for count := 1; count <= 5; count++ {
		for lengths := range eachList(count, 1, 4) {
			checkMade(t, lengths)
		}
	}
	for lengths := range eachList(2, 1, api.MaxBits) {
		checkMade(t, lengths)
	}
	r := rand.New(rand.NewSource(2))
	for range 60 {
		lengths := someLengths(r, 2+r.Intn(api.MaxMarked-1))
		checkMade(t, lengths)
		slices.Sort(lengths)
		checkMade(t, lengths)
		slices.Reverse(lengths)
		checkMade(t, lengths)
		lengths[r.Intn(len(lengths))] = 1 + r.Intn(3)
		checkMade(t, lengths)
	}
}

// TestExistence: C1, and ErrNone of Rising: which lengths the plain codes have of whose words none has more than 4 letters, found by writing all of them.
func TestExistence(t *testing.T) {
	const letters, most = 4, 5
	all := stringsUpTo(letters)
	slices.Sort(all)
	risen := map[string]bool{}
	var write func(words []string, from int)
	write = func(words []string, from int) {
		if len(words) > 0 {
			risen[listed(lengthsOf(words))] = true
		}
		if len(words) == most {
			return
		}
		for i := from; i < len(all); i++ {
			if longer := append(slices.Clone(words), all[i]); beginning(longer) == nil {
				write(longer, i+1)
			}
		}
	}
	write(nil, 0)
	shuffled := map[string]bool{} // by their lengths in rising order
	for count := 1; count <= most; count++ {
		for lengths := range eachList(count, 1, letters) {
			if risen[listed(lengths)] {
				shuffled[listed(slices.Sorted(slices.Values(lengths)))] = true
			}
		}
	}
	for count := 1; count <= most; count++ {
		for lengths := range eachList(count, 1, letters) {
			if _, e := Rising(lengths); (e == api.OK) != risen[listed(lengths)] {
				t.Errorf("Rising(%v): %d", lengths, e)
			}
			_, e := Plain(lengths)
			exists := shuffled[listed(slices.Sorted(slices.Values(lengths)))]
			if (e == api.OK) != exists || fits(lengths) != exists {
				t.Errorf("Plain(%v): %d; the sum is %s; there is a code: %t", lengths, e, sumOf(lengths), exists)
			}
		}
	}
}

func listed(list []int) string {
	text := ""
	for _, n := range list {
		text += strconv.Itoa(n) + " "
	}
	return text
}

// TestC1: Kraft and McMillan: a clear code, also one that is not plain, has a sum of at most 1, and a plain code has its lengths.
func TestC1(t *testing.T) {
	r := rand.New(rand.NewSource(3))
	codes := clearCodes()
	for words := range eachCode(3, stringsUpTo(3)) {
		codes = append(codes, words)
	}
	for range 3000 {
		codes = append(codes, someCode(r, 5, 4), someCode(r, api.MaxMarked, api.MaxBits))
	}
	one, clear, full := big.NewRat(1, 1), 0, 0
	for _, words := range codes {
		if _, e := Clear(words); e != api.ErrNone {
			continue
		}
		lengths := lengthsOf(words)
		clear++
		if sumOf(lengths).Cmp(one) > 0 {
			t.Errorf("%q is clear, with the sum %s", words, sumOf(lengths))
		}
		if sumOf(lengths).Cmp(one) == 0 {
			full++
		}
		if _, e := Plain(lengths); e != api.OK {
			t.Errorf("%q is clear, Plain(%v): %d", words, lengths, e)
		}
	}
	if clear < 1000 || full < 10 {
		t.Errorf("%d clear codes, %d with the sum 1", clear, full)
	}
}
