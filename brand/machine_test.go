package brand

import (
	"math/rand"
	"slices"
	"strings"
	"testing"

	"pommel/api"
)

func TestAcceptsKnown(t *testing.T) {
	long := strings.Repeat("a", api.MaxWord)
	for _, c := range []struct {
		b    api.Brand
		word string
		want bool
	}{
		{even(), "", true},
		{even(), "a", false},
		{even(), "aa", true},
		{even(), long, true},
		{even(), long[1:], false},
		{someA(), "", false},
		{someA(), "bbb", false},
		{someA(), "bab", true},
		{someA(), strings.Repeat("b", api.MaxWord), false},
		{someA(), strings.Repeat("b", api.MaxWord-1) + "a", true},
		{abAgain(), "", true},
		{abAgain(), "ab", true},
		{abAgain(), "ba", false},
		{abAgain(), "aab", false},
		{abAgain(), strings.Repeat("ab", api.MaxWord/2), true},
		{brandOf("001", "012", "120", "201"), "c", true},
		{brandOf("001", "012", "120", "201"), "cb", false},
		{brandOf("001", "012", "120", "201"), "bb", true},
		{every(3, true), "abc", true},
		{every(3, false), "abc", false},
		{every(1, true), "", true},
		{brandOf("01", "0", "1"), long, false}, // a good state that no word reaches
	} {
		if got := acceptsOf(t, c.b, c.word); got != c.want {
			t.Errorf("Accepts of %v, %q = %t", c.b, c.word, got)
		}
	}
}

func TestAccepts(t *testing.T) {
	r := rand.New(rand.NewSource(1))
	for range 300 {
		b := anyBrand(r)
		for word := range eachWord(signs(b), 4) {
			if acceptsOf(t, b, word) != wantAccepts(b, word) {
				t.Fatalf("Accepts of %v, %q", b, word)
			}
		}
		if word := someWord(r, signs(b), api.MaxWord); acceptsOf(t, b, word) != wantAccepts(b, word) {
			t.Fatalf("Accepts of %v, %q", b, word)
		}
	}
}

func TestSmallestKnown(t *testing.T) {
	for _, c := range []struct{ b, want api.Brand }{
		{even(), even()},
		{someA(), someA()},
		{abAgain(), abAgain()},
		{circle(6), circle(6)},
		{chainOf(6), chainOf(6)},
		{brandOf("01", "0", "1"), brandOf("0", "0")}, // no word reaches the other state
		{brandOf("010", "21", "11", "01"), brandOf("01", "01", "11")},                      // 0 and 2 accept the same words
		{brandOf("1111", "1", "2", "3", "0"), every(1, true)},                              // every word
		{brandOf("000000", "123", "234", "345", "450", "501", "012"), every(3, false)},     // none
		{brandOf("101010", "1", "2", "3", "4", "5", "0"), even()},                          // three times around
		{brandOf("001", "21", "00", "20"), brandOf("010", "12", "10", "00")},               // numbered as they are reached
		{brandOf("1010", "31", "32", "33", "33"), brandOf("1001", "12", "11", "13", "11")}, // a sink that is reached first
		{brandOf("100100", "15", "24", "30", "45", "50", "00"), brandOf("100001", "12", "34", "00", "50", "20", "42")},
	} {
		if got := smallestOf(t, c.b); !sameBrand(got, c.want) {
			t.Errorf("Smallest of %v = %v, want %v", c.b, got, c.want)
		}
	}
}

// checkSmallest checks a smallest form by words that tell states from each other, and that it is one of its own (G1).
func checkSmallest(t *testing.T, b api.Brand) {
	t.Helper()
	small, want := smallestOf(t, b), wantSmallest(b)
	if !sameBrand(small, want) {
		t.Fatalf("Smallest of %v = %v, want %v", b, small, want)
	}
	if again := smallestOf(t, small); !sameBrand(again, small) {
		t.Fatalf("Smallest of %v = %v", small, again)
	}
	for word := range eachWord(signs(b), 4) {
		if wantAccepts(small, word) != wantAccepts(b, word) {
			t.Fatalf("Smallest of %v = %v: %q", b, small, word)
		}
	}
}

func TestSmallest(t *testing.T) {
	for _, c := range [][2]int{{1, 1}, {1, 2}, {1, 3}, {2, 1}, {2, 2}, {2, 3}, {3, 1}, {4, 1}} {
		for b := range eachBrand(c[0], c[1]) {
			checkSmallest(t, b)
		}
	}
	r := rand.New(rand.NewSource(2))
	for range 1500 {
		checkSmallest(t, anyBrand(r))
	}
}

// renamed returns a brand that accepts the same words: its states are numbered anew, but for the state 0, and some are added that are copies of others.
func renamed(r *rand.Rand, b api.Brand) api.Brand {
	copies := slices.Clone(r.Perm(len(b.Next)))
	at := slices.Index(copies, 0)
	copies[0], copies[at] = copies[at], copies[0]
	for range r.Intn(api.MaxStates - len(copies) + 1) {
		copies = append(copies, r.Intn(len(b.Next)))
	}
	out := api.Brand{}
	for _, state := range copies {
		var row []int
		for _, next := range b.Next[state] {
			to := r.Intn(len(copies)) // any of the copies
			for copies[to] != next {
				to = (to + 1) % len(copies)
			}
			row = append(row, to)
		}
		out.Next, out.Good = append(out.Next, row), append(out.Good, b.Good[state])
	}
	return out
}

// TestSmallestSame: G1 and P4: brands that accept the same words have the same smallest form, and all that is said of words is the same.
func TestSmallestSame(t *testing.T) {
	r := rand.New(rand.NewSource(3))
	for range 1000 {
		b := anyBrand(r)
		c := renamed(r, b)
		if a, other := smallestOf(t, b), smallestOf(t, c); !sameBrand(a, other) {
			t.Fatalf("%v, %v: smallest forms %v, %v", b, c, a, other)
		}
		if word, e := Differ(b, c); e != api.ErrNone || word != "" {
			t.Fatalf("Differ of %v, %v = %q, %d", b, c, word, e)
		}
		x, y := allFound(b, b, "", 1), allFound(c, c, "", 1)
		x.reset, x.errors[resetError], y.reset, y.errors[resetError] = "", 0, "", 0 // Reset is of the brand itself
		if !same(x, y) {
			t.Fatalf("%v, %v: %v, %v", b, c, x, y)
		}
	}
}

// wantDiffer tries all words that can be needed.
func wantDiffer(b, c api.Brand) (string, api.Errno) {
	for word := range eachWord(signs(b), len(b.Next)+len(c.Next)-2) {
		if wantAccepts(b, word) != wantAccepts(c, word) {
			return word, api.OK
		}
	}
	return "", api.ErrNone
}

func checkDiffer(t *testing.T, b, c api.Brand) {
	t.Helper()
	want, f := wantDiffer(b, c)
	for range 2 {
		if got, e := Differ(b, c); got != want || e != f {
			t.Fatalf("Differ of %v, %v = %q, %d, want %q, %d", b, c, got, e, want, f)
		}
		b, c = c, b
	}
}

func TestDifferKnown(t *testing.T) {
	for _, c := range []struct {
		b, c api.Brand
		want string
		e    api.Errno
	}{
		{even(), even(), "", api.ErrNone},
		{even(), every(1, true), "a", api.OK},
		{even(), every(1, false), "", api.OK}, // the empty word
		{even(), circle(4), "aa", api.OK},
		{even(), brandOf("101010", "1", "2", "3", "4", "5", "0"), "", api.ErrNone},
		{circle(5), circle(6), "aaaaa", api.OK},
		{chainOf(5), chainOf(6), "aaaa", api.OK},
		{brandOf("111110", "1", "2", "3", "4", "5", "0"), brandOf("11111", "1", "2", "3", "4", "0"), "aaaaa", api.OK},
		{brandOf("100000", "1", "2", "3", "4", "5", "5"), every(1, false), "", api.OK},
		{chainOf(6), every(1, false), "aaaaa", api.OK},
		{someA(), abAgain(), "", api.OK},
		{someA(), brandOf("01", "01", "11"), "a", api.OK},
		{brandOf("01", "01", "11"), brandOf("010", "01", "12", "11"), "bb", api.OK},
		{every(3, true), every(3, true), "", api.ErrNone},
		{every(3, true), brandOf("110", "001", "002", "222"), "cc", api.OK},
	} {
		for _, pair := range [][2]api.Brand{{c.b, c.c}, {c.c, c.b}} {
			if got, e := Differ(pair[0], pair[1]); got != c.want || e != c.e {
				t.Errorf("Differ of %v, %v = %q, %d", pair[0], pair[1], got, e)
			}
		}
	}
	// the longest words that can be needed: for any n and m of which neither divides the other
	five, six := brandOf("11110", "1", "2", "3", "4", "0"), brandOf("000010", "1", "2", "3", "4", "5", "0")
	checkDiffer(t, five, six)
}

func TestDiffer(t *testing.T) {
	for b := range eachBrand(2, 1) {
		for c := range eachBrand(3, 1) {
			checkDiffer(t, b, c)
		}
	}
	for b := range eachBrand(2, 2) {
		for c := range eachBrand(2, 2) {
			checkDiffer(t, b, c)
		}
	}
	r := rand.New(rand.NewSource(4))
	for range 400 {
		signs := 1 + r.Intn(2)
		b, c := someBrand(r, 1+r.Intn(6), signs), someBrand(r, 1+r.Intn(6), signs)
		checkDiffer(t, b, c)
		c = renamed(r, b)
		c.Good[r.Intn(len(c.Good))] = r.Intn(2) == 0
		checkDiffer(t, b, c)
	}
	for range 100 {
		b := someBrand(r, 1+r.Intn(4), 3)
		c := renamed(r, b)
		c.Next[r.Intn(len(c.Next))][r.Intn(3)] = r.Intn(len(c.Next))
		checkDiffer(t, b, someBrand(r, 1+r.Intn(4), 3))
		if len(b.Next)+len(c.Next) < 10 {
			checkDiffer(t, b, c)
		}
	}
}

func TestResetKnown(t *testing.T) {
	for _, c := range []struct {
		b    api.Brand
		want string
		e    api.Errno
	}{
		{brandOf("000", "10", "21", "22"), "aa", api.OK},
		{every(1, true), "", api.OK},
		{every(3, false), "", api.OK},
		{even(), "", api.ErrNone},
		{circle(6), "", api.ErrNone},
		{someA(), "a", api.OK},
		{brandOf("01", "01", "11"), "b", api.OK},
		{abAgain(), "aa", api.OK},
		{chainOf(6), "aaaaa", api.OK},
		{brandOf("00", "0", "1"), "", api.ErrNone},          // no word reaches the state 1, which counts
		{brandOf("00", "01", "11"), "b", api.OK},            // the states are alike, which does not matter
		{brandOf("000", "0", "0", "1"), "aa", api.OK},       // nor do states that no word reaches
		{brandOf("00", "10", "00"), "b", api.OK},            // b from both, but a from one of them only
		{brandOf("000", "100", "010", "122"), "ac", api.OK}, // ca does it, too
		{acting([]int{1, 2, 3, 4, 5, 0}, []int{1, 0, 2, 3, 4, 5}, []int{0, 1, 2, 3, 4, 5}), "", api.ErrNone},
	} {
		if got, e := Reset(c.b); got != c.want || e != c.e {
			t.Errorf("Reset of %v = %q, %d, want %q, %d", c.b, got, e, c.want, c.e)
		}
	}
}

// TestCerny: G7: the brands with the longest words.
func TestCerny(t *testing.T) {
	for n := 2; n <= api.MaxStates; n++ {
		want := "b" + strings.Repeat(strings.Repeat("a", n-1)+"b", n-2)
		got, e := Reset(cerny(n))
		if e != api.OK || got != want || len(got) != (n-1)*(n-1) {
			t.Errorf("Reset of %v = %q, %d, want %q", cerny(n), got, e, want)
		}
	}
}

// wantReset returns the least word that leads to each set of states to which any leads, or only the one for Reset if tried is not 0: then all words of so many letters are tried.
func wantReset(b api.Brand, tried int) (string, api.Errno) {
	gathers := func(word string) bool {
		list := does(b, word)
		return strings.Count(list, list[:1]) == len(list)
	}
	if tried > 0 {
		for word := range eachWord(signs(b), tried) {
			if gathers(word) {
				return word, api.OK
			}
		}
		return "", api.ErrNone
	}
	setOf := func(word string) string {
		list := []byte(does(b, word))
		slices.Sort(list)
		return string(slices.Compact(list))
	}
	least := map[string]string{setOf(""): ""}
	for changed := true; changed; {
		changed = false
		for _, word := range least {
			for _, letter := range "abc"[:signs(b)] {
				longer := word + string(letter)
				if old, known := least[setOf(longer)]; !known || compare(longer, old) < 0 {
					least[setOf(longer)] = longer
					changed = true
				}
			}
		}
	}
	best, e := "", api.ErrNone
	for set, word := range least {
		if len(set) == 1 && (e == api.ErrNone || compare(word, best) < 0) {
			best, e = word, api.OK
		}
	}
	return best, e
}

func checkReset(t *testing.T, b api.Brand, tried int) {
	t.Helper()
	want, f := wantReset(b, tried)
	got, e := Reset(b)
	if got != want || e != f {
		t.Fatalf("Reset of %v = %q, %d, want %q, %d", b, got, e, want, f)
	}
	if n := len(b.Next); len(got) > (n-1)*(n-1) {
		t.Fatalf("Reset of %v = %q", b, got)
	}
}

func TestReset(t *testing.T) {
	for _, c := range [][2]int{{1, 1}, {1, 2}, {1, 3}, {2, 1}, {2, 2}, {2, 3}, {3, 1}, {4, 1}} {
		for b := range eachBrand(c[0], c[1]) {
			checkReset(t, b, max(1, (c[0]-1)*(c[0]-1)))
		}
	}
	r := rand.New(rand.NewSource(5))
	for range 300 {
		checkReset(t, someBrand(r, 3, 1+r.Intn(3)), 4)
		checkReset(t, someBrand(r, 4, 1+r.Intn(2)), 9)
	}
	for range 300 {
		checkReset(t, someBrand(r, 4+r.Intn(3), 1+r.Intn(3)), 0)
	}
	for n := 2; n <= api.MaxStates; n++ {
		checkReset(t, cerny(n), 0)
	}
}
