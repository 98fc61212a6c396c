package brand

import (
	"math/rand"
	"slices"
	"strings"
	"testing"

	"pommel/api"
)

func TestShortKnown(t *testing.T) {
	for _, c := range []struct {
		b    api.Brand
		want [4]string // for 0 to 3
	}{
		{someA(), [4]string{"a -", none, none, none}},
		{even(), [4]string{"- a", "aa a", "aa aaa", "aaaa aaa"}},
		{abAgain(), [4]string{"- a", "ab ba", "abab abba", "ababab ababba"}},
		{every(1, true), [4]string{none, none, none, none}},
		{every(2, false), [4]string{none, none, none, none}},
		{every(3, true), [4]string{none, none, none, "error 7"}}, // there are more than 5000 sets of parts of length 3
		{withPart(2, "ab"), [4]string{"ab -", "ab ba", none, none}},
		{withPart(2, "aba"), [4]string{"aba -", "aba ab", "abab baab", none}},
	} {
		for k, want := range c.want {
			if got := pair(Short(c.b, k)); got != want {
				t.Errorf("Short of %v, %d = %s, want %s", c.b, k, got, want)
			}
			if signs(c.b) < 3 {
				checkTried(t, c.b, k, 7)
			}
		}
	}
}

// partsOf returns all words that are a word without some letters, of at most k letters, each once, sorted.
func partsOf(word string, k int) string {
	parts := []string{""}
	for i := range len(word) {
		for _, part := range slices.Clone(parts) {
			if len(part) < k {
				parts = append(parts, part+word[i:i+1])
			}
		}
		slices.Sort(parts)
		parts = slices.Compact(parts)
	}
	return strings.Join(parts, ",")
}

// tried returns what Short must find among all words of up to so many letters.
func tried(b api.Brand, k, most int) string {
	type sorted struct{ good, bad []string }
	sets := map[string]*sorted{}
	for word := range eachWord(signs(b), most) {
		key := partsOf(word, k)
		if sets[key] == nil {
			sets[key] = &sorted{}
		}
		if wantAccepts(b, word) {
			sets[key].good = append(sets[key].good, word)
		} else {
			sets[key].bad = append(sets[key].bad, word)
		}
	}
	var best [2]string
	found := false
	for _, set := range sets {
		for _, good := range set.good {
			for _, bad := range set.bad {
				if !found || lessPair(good, bad, best) {
					best, found = [2]string{good, bad}, true
				}
			}
		}
	}
	if !found {
		return none
	}
	return pair(best[0], best[1], api.OK)
}

// lessPair compares two words with others as the chapter says.
func lessPair(good, bad string, best [2]string) bool {
	longer, other := max(len(good), len(bad)), max(len(best[0]), len(best[1]))
	if longer != other {
		return longer < other
	}
	if good != best[0] {
		return compare(good, best[0]) < 0
	}
	return compare(bad, best[1]) < 0
}

// met are the least words with which each state of a brand is reached with each set of parts of length k: for the sets that differ, what may be left of a word is the same.
func met(b api.Brand, k int) map[string]map[int]string {
	least := map[string]map[int]string{}
	words := []string{""}
	for len(words) > 0 {
		var longer []string
		for _, word := range words {
			key, state := partsOf(word, k), walk(b, 0, word)
			if least[key] == nil {
				least[key] = map[int]string{}
			}
			if _, known := least[key][state]; known {
				continue
			}
			least[key][state] = word
			for _, letter := range "abc"[:signs(b)] {
				longer = append(longer, word+string(letter))
			}
		}
		words = longer
	}
	return least
}

// wantShort finds the words of Short among the least ones for each state, and returns how many pairs of a state and a set there are.
func wantShort(b api.Brand, k int) (string, int) {
	var best [2]string
	found, count := false, 0
	for _, states := range met(b, k) {
		count += len(states)
		for s, good := range states {
			for u, bad := range states {
				if b.Good[s] && !b.Good[u] && (!found || lessPair(good, bad, best)) {
					best, found = [2]string{good, bad}, true
				}
			}
		}
	}
	if !found {
		return none, count
	}
	return pair(best[0], best[1], api.OK), count
}

// checkShort checks Short, and the words that it returns.
func checkShort(t *testing.T, b api.Brand, k int) {
	t.Helper()
	want, _ := wantShort(b, k)
	first, second, e := Short(b, k)
	if got := pair(first, second, e); got != want {
		t.Fatalf("Short of %v, %d = %s, want %s", b, k, got, want)
	}
	if e == api.OK && (!wantAccepts(b, first) || wantAccepts(b, second) || partsOf(first, k) != partsOf(second, k)) {
		t.Fatalf("Short of %v, %d = %q, %q", b, k, first, second)
	}
}

// checkTried checks Short by all words of up to so many letters.
func checkTried(t *testing.T, b api.Brand, k, most int) {
	t.Helper()
	first, second, e := Short(b, k)
	got, want := pair(first, second, e), tried(b, k, most)
	if got != want && (want != none || max(len(first), len(second)) <= most) {
		t.Fatalf("Short of %v, %d = %s, want %s", b, k, got, want)
	}
}

func TestShort(t *testing.T) {
	for _, c := range [][2]int{{1, 1}, {1, 2}, {2, 1}, {2, 2}, {3, 1}} {
		for b := range eachBrand(c[0], c[1]) {
			for k := range 4 {
				checkTried(t, b, k, 5)
				if k < 3 {
					checkShort(t, b, k)
				}
			}
		}
	}
	r := rand.New(rand.NewSource(9))
	for range 60 {
		b := someBrand(r, 1+r.Intn(api.MaxStates), 1+r.Intn(2))
		for k := range 4 {
			checkTried(t, b, k, 7)
			checkShort(t, b, k)
		}
		b = someBrand(r, 1+r.Intn(api.MaxStates), 3)
		for k := range 3 {
			checkTried(t, b, k, 4)
			checkShort(t, b, k)
		}
		if got := pair(Short(b, 3)); got != "error 7" {
			t.Errorf("Short of %v, 3 = %s", b, got)
		}
	}
}

// TestManyMeetings: the most pairs of a state and a set that were found below the limit, and the fewest above it: three letters have 5312 sets of parts of length 3.
func TestManyMeetings(t *testing.T) {
	for _, c := range []struct {
		b        api.Brand
		k, count int
	}{
		{brandOf("000011", "255", "344", "403", "510", "122", "031"), 2, 832},
		{brandOf("011001", "41", "32", "15", "00", "53", "24"), 3, 313},
		{every(3, true), 2, 152},
		{every(2, true), 3, 68},
		{every(3, true), 3, 5312},
	} {
		want, count := wantShort(c.b, c.k)
		if count != c.count {
			t.Errorf("%v, %d: %d pairs, want %d", c.b, c.k, count, c.count)
		}
		if count > 5000 {
			want = "error 7"
		}
		if got := pair(Short(c.b, c.k)); got != want {
			t.Errorf("Short of %v, %d = %s, want %s", c.b, c.k, got, want)
		}
	}
	for _, b := range []api.Brand{every(3, false), brandOf("01", "100", "111"), all400()[1], all401()[1], acting([]int{1, 2, 0}, []int{1, 0, 2}, []int{0, 1, 0})} {
		if got := pair(Short(b, 3)); got != "error 7" {
			t.Errorf("Short of %v, 3 = %s", b, got)
		}
	}
}

// TestShortAlone: the monoid may have more elements than are allowed, and states that no word reaches do not count.
func TestShortAlone(t *testing.T) {
	for _, b := range append(all401(), cerny(5), cerny(6)) {
		for k := range 4 {
			if k < 3 || signs(b) < 3 {
				checkShort(t, b, k)
			}
		}
	}
	b := brandOf("011111", "10", "11", "23", "34", "45", "52")
	for k := range 4 {
		if got, want := pair(Short(b, k)), pair(Short(someA(), k)); got != want {
			t.Errorf("Short of %v, %d = %s, want %s", b, k, got, want)
		}
	}
}
