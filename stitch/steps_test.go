package stitch

import (
	"math/rand"
	"slices"
	"strings"
	"testing"

	"pommel/api"
)

// example is the threads of the document's examples.
func example() cloth { return cloth{3, []api.Pair{{A: 0, B: 1}}} }

func TestExamples(t *testing.T) {
	c := example()
	if steps := c.stepsOf(t, "bac"); !slices.Equal(steps, []string{"ab", "c"}) {
		t.Errorf("Steps = %q", steps)
	}
	if least := c.leastOf(t, "bac"); least != "abc" {
		t.Errorf("Least = %q", least)
	}
	if ways := c.waysOf(t, "bac"); ways != 2 {
		t.Errorf("Ways = %d", ways)
	}
	if !c.equal(t, "bac", "abc") || c.equal(t, "bac", "acb") {
		t.Error("Equal")
	}
	if cliques, e := Cliques(c.k, c.pairs); e != api.OK || !slices.Equal(cliques, []int{1, 3, 1}) {
		t.Errorf("Cliques = %v, %d", cliques, e)
	}
	for n, want := range []api.Num{"1", "3", "8"} {
		if count, e := Count(c.k, c.pairs, n); e != api.OK || count != want {
			t.Errorf("Count of %d = %s, %d", n, count, e)
		}
	}
	if meet := c.meetOf(t, "abc", "bb"); meet != "b" {
		t.Errorf("Meet = %q", meet)
	}
	if join, e := Join(c.k, c.pairs, "abc", "bb"); e != api.ErrNone || join != "" {
		t.Errorf("Join = %q, %d", join, e)
	}
	if join, e := Join(c.k, c.pairs, "a", "b"); e != api.OK || join != "ab" {
		t.Errorf("Join = %q, %d", join, e)
	}
}

func TestKnown(t *testing.T) {
	chain := cloth{4, []api.Pair{{A: 0, B: 2}, {A: 3, B: 0}, {A: 1, B: 3}}} // a and b, b and c, c and d do not commute
	cases := []struct {
		c       cloth
		seam    string
		steps   []string
		least   string
		heights []int
		parts   []string
		ways    int
	}{
		{cloth{k: 1}, "", nil, "", nil, nil, 1},
		{cloth{k: 1}, "a", []string{"a"}, "a", []int{1}, []string{"a"}, 1},
		{cloth{k: 1}, "aaa", []string{"a", "a", "a"}, "aaa", []int{1, 2, 3}, []string{"aaa"}, 1},
		{cloth{6, allPairs(6)}, "", nil, "", nil, nil, 1},
		{cloth{6, allPairs(6)}, "f", []string{"f"}, "f", []int{1}, []string{"f"}, 1},
		{cloth{6, allPairs(6)}, "fedcba", []string{"abcdef"}, "abcdef", []int{1, 1, 1, 1, 1, 1}, []string{"a", "b", "c", "d", "e", "f"}, 720},
		{cloth{2, allPairs(2)}, "bba", []string{"ab", "b"}, "abb", []int{1, 2, 1}, []string{"a", "bb"}, 3},
		{cloth{k: 2}, "bab", []string{"b", "a", "b"}, "bab", []int{1, 2, 3}, []string{"bab"}, 1},
		{example(), "abcba", []string{"ab", "c", "ab"}, "abcab", []int{1, 1, 2, 3, 3}, []string{"abcba"}, 4},
		{example(), "aab", []string{"ab", "a"}, "aab", []int{1, 2, 1}, []string{"aa", "b"}, 3},
		{example(), "bbaa", []string{"ab", "ab"}, "aabb", []int{1, 2, 1, 2}, []string{"aa", "bb"}, 6},
		{chain, "dcba", []string{"d", "c", "b", "a"}, "dcba", []int{1, 2, 3, 4}, []string{"dcba"}, 1},
		{chain, "dbca", []string{"bd", "ac"}, "badc", []int{1, 1, 2, 2}, []string{"dbca"}, 5},
		{chain, "dca", []string{"ad", "c"}, "adc", []int{1, 2, 1}, []string{"a", "dc"}, 3}, // no chain without b
		{chain, "dadcd", []string{"ad", "d", "c", "d"}, "addcd", []int{1, 1, 2, 3, 4}, []string{"a", "ddcd"}, 5},
	}
	for _, c := range cases {
		steps, least := c.c.stepsOf(t, c.seam), c.c.leastOf(t, c.seam)
		heights, e := Heights(c.c.k, c.c.pairs, c.seam)
		parts, ways := c.c.partsOf(t, c.seam), c.c.waysOf(t, c.seam)
		if !slices.Equal(steps, c.steps) || least != c.least || e != api.OK || !slices.Equal(heights, c.heights) || !slices.Equal(parts, c.parts) || ways != c.ways {
			t.Errorf("%v: %q: %q, %q, %v, %q, %d", c.c, c.seam, steps, least, heights, parts, ways)
		}
	}
}

// inSteps checks the definition of steps, but not that they are of a certain seam.
func (c cloth) inSteps(steps []string) bool {
	for i, step := range steps {
		for j := range len(step) {
			if j > 0 && step[j] <= step[j-1] {
				return false
			}
			for k := range j {
				if !c.commute(step[j], step[k]) {
					return false
				}
			}
			stays := func(r rune) bool { return !c.commute(step[j], byte(r)) } // also the same letter
			if i > 0 && !strings.ContainsFunc(steps[i-1], stays) {
				return false
			}
		}
		if step == "" {
			return false
		}
	}
	return true
}

// allSteps returns all ways to part a seam into steps.
func (c cloth) allSteps(seam string) [][]string {
	var out [][]string
	for cuts := range 1 << max(len(seam)-1, 0) {
		var steps []string
		from := 0
		for i := 1; i < len(seam); i++ {
			if cuts>>(i-1)&1 == 1 {
				steps = append(steps, seam[from:i])
				from = i
			}
		}
		if seam != "" {
			steps = append(steps, seam[from:])
		}
		if c.inSteps(steps) {
			out = append(out, steps)
		}
	}
	return out
}

// TestClasses: S1, S2, S8, P1 to P4, of all short seams, by the seams that exchanges lead to.
func TestClasses(t *testing.T) {
	for _, c := range allCloths(3) {
		first := map[string]string{}
		for _, seam := range c.allSeams(6 - c.k/2) {
			class := c.class(seam)
			first[seam] = class[0]
			checkClass(t, c, seam, class)
			if len(c.pairs) == 0 && len(class) != 1 {
				t.Fatalf("%v: %q has a class of %d", c, seam, len(class))
			}
		}
		for _, s := range c.allSeams(4) {
			for _, u := range c.allSeams(4) {
				want := first[s] == first[u]
				if c.equal(t, s, u) != want || c.projected(s, u) != want {
					t.Fatalf("%v: Equal(%q, %q) is not %t", c, s, u, want)
				}
			}
		}
	}
}

// checkClass checks what the functions return for a seam; class is what it is equal to.
func checkClass(t *testing.T, c cloth, seam string, class []string) {
	t.Helper()
	if least := c.leastOf(t, seam); least != class[0] {
		t.Fatalf("%v: Least(%q) = %q, want %q", c, seam, least, class[0])
	}
	if ways := c.waysOf(t, seam); ways != len(class) {
		t.Fatalf("%v: Ways(%q) = %d, want %d", c, seam, ways, len(class))
	}
	var all [][]string
	for _, other := range class {
		all = append(all, c.allSteps(other)...)
	}
	if steps := c.stepsOf(t, seam); len(all) != 1 || !slices.Equal(steps, all[0]) {
		t.Fatalf("%v: Steps(%q) = %q, want just one of %q", c, seam, steps, all)
	}
	checkHeights(t, c, seam)
}

// checkHeights checks that the letters of each height are those of the step.
func checkHeights(t *testing.T, c cloth, seam string) {
	t.Helper()
	steps := c.stepsOf(t, seam)
	heights, e := Heights(c.k, c.pairs, seam)
	if e != api.OK || len(heights) != len(seam) {
		t.Fatalf("%v: Heights(%q) = %v, %d", c, seam, heights, e)
	}
	sets := make([][]byte, len(steps))
	last := map[byte]int{}
	for i, height := range heights {
		if height < 1 || height > len(steps) || height <= last[seam[i]] {
			t.Fatalf("%v: Heights(%q) = %v, steps %q", c, seam, heights, steps)
		}
		last[seam[i]] = height
		sets[height-1] = append(sets[height-1], seam[i])
	}
	for i, set := range sets {
		slices.Sort(set)
		if string(set) != steps[i] {
			t.Fatalf("%v: Heights(%q) = %v, steps %q", c, seam, heights, steps)
		}
	}
}

// TestMixed: S1, S2 and P4, of long seams.
func TestMixed(t *testing.T) {
	r := rand.New(rand.NewSource(1))
	equal, different := 0, 0
	for i := range 3000 {
		c := someCloth(r, api.MaxLetters)
		seam := c.someSeam(r, api.MaxStitch)
		if i%10 == 0 {
			seam = strings.Repeat(c.someSeam(r, 7)+"a", api.MaxStitch)[:api.MaxStitch]
		}
		other := c.mixed(r, seam)
		if !c.equal(t, seam, other) || c.leastOf(t, seam) != c.leastOf(t, other) || !slices.Equal(c.stepsOf(t, seam), c.stepsOf(t, other)) {
			t.Fatalf("%v: %q is not %q", c, seam, other)
		}
		steps, least := c.stepsOf(t, seam), c.leastOf(t, seam)
		if !c.inSteps(steps) || !c.projected(seam, strings.Join(steps, "")) || !c.projected(seam, least) || least > min(seam, other, strings.Join(steps, "")) {
			t.Fatalf("%v: %q: %q, %q", c, seam, steps, least)
		}
		checkHeights(t, c, seam)
		letters := []byte(other)
		if n := len(letters); n > 1 {
			a, b := r.Intn(n), r.Intn(n)
			letters[a], letters[b] = letters[b], letters[a]
		}
		want := c.projected(seam, string(letters))
		if want {
			equal++
		} else {
			different++
		}
		if c.equal(t, seam, string(letters)) != want || (c.leastOf(t, seam) == c.leastOf(t, string(letters))) != want {
			t.Fatalf("%v: %q and %q: equal %t", c, seam, letters, want)
		}
	}
	if min(equal, different) < 500 {
		t.Fatalf("%d equal, %d different", equal, different)
	}
}

// TestFree: S8, of long seams.
func TestFree(t *testing.T) {
	r := rand.New(rand.NewSource(2))
	for range 500 {
		c := cloth{k: r.Intn(api.MaxLetters) + 1}
		s, u := c.someSeam(r, api.MaxStitch), c.someSeam(r, 2)
		steps := strings.Split(s, "")
		if c.leastOf(t, s) != s || !slices.Equal(c.stepsOf(t, s), steps) || !c.equal(t, s, s) || c.equal(t, s, s[:len(s)/2]+u) != (s == s[:len(s)/2]+u) {
			t.Fatalf("%v: %q, %q", c, s, u)
		}
		if short := s[:min(len(s), api.MaxSpread)]; c.waysOf(t, short) != 1 {
			t.Fatalf("%v: %q has more than one way", c, short)
		}
	}
}

// TestLengths: seams of exactly as many letters as may be; of seams that all commute the ways are known.
func TestLengths(t *testing.T) {
	full := cloth{6, allPairs(6)}
	long := strings.Repeat("fedcba", 7)[:api.MaxStitch]
	if steps := full.stepsOf(t, long); len(steps) != 7 || steps[0] != "abcdef" || steps[6] != "cdef" {
		t.Errorf("Steps = %q", steps)
	}
	if least := full.leastOf(t, long); least != "aaaaaabbbbbbcccccccdddddddeeeeeeefffffff" {
		t.Errorf("Least = %q", least)
	}
	cases := []struct {
		c    cloth
		seam string
		want int
	}{
		{full, "aaaaaaaaaaaaaaaa", 1},
		{full, "abababababababab", 12870},
		{full, "fedcbafedcbafedc", 4036032000}, // 16! / (3!^4 2!^2), more than 32 bits hold
		{full, "aaabbbcccdddeeff", 4036032000},
		{cloth{6, allPairs(6)[1:]}, "fedcbafedcbafedc", 672672000}, // a and b, two of each, stand in but one of their 6 orders
		{cloth{k: 6}, "fedcbafedcbafedc", 1},
	}
	for _, c := range cases {
		if ways := c.c.waysOf(t, c.seam); ways != c.want {
			t.Errorf("%v: Ways(%q) = %d, want %d", c.c, c.seam, ways, c.want)
		}
	}
}

// shuffles returns in how many ways seams of those lengths can be shuffled.
func shuffles(parts []string) int {
	count, n := 1, 0
	for _, part := range parts {
		for i := 1; i <= len(part); i++ {
			n++
			count = count * n / i
		}
	}
	return count
}

// linked reports whether a chain of letters of the seam, each of which does not commute with the next, connects two of them.
func (c cloth) linked(seam string, a, b byte) bool {
	reached := string([]byte{a})
	for i := 0; i < len(reached); i++ { // reached grows
		for j := range len(seam) {
			if !c.commute(reached[i], seam[j]) && strings.IndexByte(reached, seam[j]) < 0 {
				reached += seam[j : j+1]
			}
		}
	}
	return strings.IndexByte(reached, b) >= 0
}

// TestParts: S7.
func TestParts(t *testing.T) {
	r := rand.New(rand.NewSource(3))
	counts := map[int]int{}
	for i := range 3000 {
		c := someCloth(r, api.MaxLetters)
		most := api.MaxStitch
		if i%2 == 0 {
			most = api.MaxSpread
		}
		seam := c.someSeam(r, most)
		parts := c.partsOf(t, seam)
		counts[len(parts)]++
		if !c.projected(seam, strings.Join(parts, "")) {
			t.Fatalf("%v: Parts(%q) = %q", c, seam, parts)
		}
		in := map[byte]int{}
		least := byte(0)
		product := shuffles(parts)
		for i, part := range parts {
			if part == "" || slices.Min([]byte(part)) <= least {
				t.Fatalf("%v: Parts(%q) = %q", c, seam, parts)
			}
			least = slices.Min([]byte(part))
			for _, letter := range []byte(part) {
				in[letter] = i
			}
			whole := strings.Map(func(r rune) rune {
				if strings.ContainsRune(part, r) {
					return r
				}
				return -1
			}, seam)
			if whole != part {
				t.Fatalf("%v: Parts(%q) = %q", c, seam, parts)
			}
			if most == api.MaxSpread {
				product *= c.waysOf(t, part)
			}
		}
		for a := range in {
			for b := range in {
				if c.linked(seam, a, b) != (in[a] == in[b]) {
					t.Fatalf("%v: Parts(%q) = %q", c, seam, parts)
				}
			}
		}
		if most == api.MaxSpread && c.waysOf(t, seam) != product {
			t.Fatalf("%v: Ways(%q) is not %d", c, seam, product)
		}
	}
	if min(counts[0], counts[1], counts[2], counts[3]) < 50 {
		t.Fatalf("parts: %v", counts)
	}
}
