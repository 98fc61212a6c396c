package stitch

import (
	"math/rand"
	"strings"
	"testing"

	"pommel/api"
)

// begins returns, for each seam of up to most letters that is the least of its equal ones, the least seam of what is left
// after each beginning, which is its least seam, too.
func (c cloth) begins(most int) ([]string, map[string]map[string]string) {
	var list []string
	rests := map[string]map[string]string{}
	first := map[string]string{}
	for _, seam := range c.allSeams(most) {
		if first[seam] != "" {
			continue
		}
		class := c.class(seam)
		for _, other := range class {
			first[other] = class[0]
		}
		rests[class[0]] = map[string]string{}
		list = append(list, class[0])
		for _, other := range class {
			for i := range len(other) + 1 {
				rests[class[0]][first[other[:i]]] = first[other[i:]]
			}
		}
	}
	return list, rests
}

// TestSmallLattice: P3, S4 and S5, of all short seams: the results are compared with all seams that there are.
func TestSmallLattice(t *testing.T) {
	for _, c := range allCloths(3) {
		list, rests := c.begins(6)
		for _, s := range list {
			for _, u := range list {
				if len(u) > 3 {
					break
				}
				checkRest(t, c, u, s, rests[s])
				if len(s) <= 3 {
					checkMeet(t, c, s, u, rests)
					checkJoin(t, c, s, u, list, rests)
				}
			}
		}
	}
}

func checkRest(t *testing.T, c cloth, s, u string, rests map[string]string) {
	t.Helper()
	want, begins := rests[s]
	err := api.OK
	if !begins {
		err = api.ErrNone
	}
	if rest, e := Rest(c.k, c.pairs, s, u); e != err || rest != want {
		t.Fatalf("%v: Rest(%q, %q) = %q, %d, want %q", c, s, u, rest, e, want)
	}
}

func checkMeet(t *testing.T, c cloth, s, u string, rests map[string]map[string]string) {
	t.Helper()
	var common []string
	longest := ""
	for x := range rests[s] {
		if _, ok := rests[u][x]; ok {
			common = append(common, x)
			if len(x) > len(longest) {
				longest = x
			}
		}
	}
	if meet := c.meetOf(t, s, u); meet != longest {
		t.Fatalf("%v: Meet(%q, %q) = %q, want %q", c, s, u, meet, longest)
	}
	for _, x := range common {
		if _, ok := rests[longest][x]; !ok {
			t.Fatalf("%v: %q begins %q and %q, but not %q", c, x, s, u, longest)
		}
	}
}

func checkJoin(t *testing.T, c cloth, s, u string, list []string, rests map[string]map[string]string) {
	t.Helper()
	var common []string
	for _, x := range list { // shorter ones first
		_, a := rests[x][s]
		_, b := rests[x][u]
		if a && b {
			common = append(common, x)
		}
	}
	join, e := Join(c.k, c.pairs, s, u)
	if len(common) == 0 {
		if e != api.ErrNone || join != "" {
			t.Fatalf("%v: Join(%q, %q) = %q, %d, but there is none", c, s, u, join, e)
		}
		return
	}
	if e != api.OK || join != common[0] {
		t.Fatalf("%v: Join(%q, %q) = %q, %d, want %q", c, s, u, join, e, common[0])
	}
	for _, x := range common {
		if _, ok := rests[x][join]; !ok {
			t.Fatalf("%v: %q and %q begin %q, but %q does not", c, s, u, x, join)
		}
	}
}

// TestRest: S4, of long seams, and of seams that are in other orders than their beginnings.
func TestRest(t *testing.T) {
	r := rand.New(rand.NewSource(4))
	none := 0
	for range 3000 {
		c := someCloth(r, api.MaxLetters)
		s, rest := c.someSeam(r, api.MaxStitch/2), c.someSeam(r, api.MaxStitch/2)
		whole := c.mixed(r, s+rest)
		got := c.restOf(t, s, whole)
		if got != c.leastOf(t, rest) || !c.projected(s+got, whole) {
			t.Fatalf("%v: Rest(%q, %q) = %q, want one equal to %q", c, s, whole, got, rest)
		}
		if c.restOf(t, whole, whole) != "" || c.restOf(t, "", whole) != c.leastOf(t, whole) {
			t.Fatalf("%v: rests of %q", c, whole)
		}
		// What begins a seam is its own Meet with it.
		u := c.someSeam(r, 4)
		meet := c.meetOf(t, u, whole)
		begins := len(meet) == len(u)
		if !begins {
			none++
		}
		if got, e := Rest(c.k, c.pairs, u, whole); (e == api.OK) != begins || !begins && (e != api.ErrNone || got != "") {
			t.Fatalf("%v: Rest(%q, %q) = %q, %d, Meet %q", c, u, whole, got, e, meet)
		}
	}
	if none < 500 {
		t.Fatalf("%d seams do not begin others", none)
	}
	c := example()
	for _, seams := range [][2]string{{"a", ""}, {"ab", "a"}, {"c", "ac"}, {"aa", "ab"}, {"abcc", "abc"}} {
		if rest, e := Rest(c.k, c.pairs, seams[0], seams[1]); e != api.ErrNone || rest != "" {
			t.Errorf("Rest(%q, %q) = %q, %d", seams[0], seams[1], rest, e)
		}
	}
	if rest := c.restOf(t, "b", "ab"); rest != "a" {
		t.Errorf("Rest = %q", rest)
	}
	long := strings.Repeat("ab", api.MaxStitch/2)
	if rest := c.restOf(t, strings.Repeat("b", api.MaxStitch/2), long); rest != strings.Repeat("a", api.MaxStitch/2) {
		t.Errorf("Rest = %q", rest)
	}
}

// TestLattice: S5, of long seams.
func TestLattice(t *testing.T) {
	r := rand.New(rand.NewSource(5))
	joins, none := 0, 0
	for range 4000 {
		c := someCloth(r, api.MaxLetters)
		common := c.someSeam(r, 10)
		s, u := c.mixed(r, common+c.someSeam(r, 6)), c.mixed(r, common+c.someSeam(r, 6))
		meet := c.meetOf(t, s, u)
		y, z := c.restOf(t, meet, s), c.restOf(t, meet, u)
		if len(meet) < len(common) || meet != c.leastOf(t, meet) || meet != c.meetOf(t, u, s) || c.meetOf(t, y, z) != "" {
			t.Fatalf("%v: Meet(%q, %q) = %q", c, s, u, meet)
		}
		c.restOf(t, common, meet) // all that begin both begin it
		join, e := Join(c.k, c.pairs, s, u)
		other, f := Join(c.k, c.pairs, u, s)
		if e != f || join != other {
			t.Fatalf("%v: Join(%q, %q) = %q, %d, turned %q, %d", c, s, u, join, e, other, f)
		}
		if e == api.ErrNone && join == "" {
			none++
			continue
		}
		joins++
		if e != api.OK || join != c.leastOf(t, join) || len(join) != len(s)+len(u)-len(meet) {
			t.Fatalf("%v: Join(%q, %q) = %q, %d", c, s, u, join, e)
		}
		c.restOf(t, s, join)
		c.restOf(t, u, join)
		if c.meetOf(t, s, join) != c.leastOf(t, s) || c.meetOf(t, u, join) != c.leastOf(t, u) {
			t.Fatalf("%v: Meet with the Join of %q and %q", c, s, u)
		}
		if again, e := Join(c.k, c.pairs, s, meet); e != api.OK || again != c.leastOf(t, s) {
			t.Fatalf("%v: Join of %q and a Meet = %q, %d", c, s, again, e)
		}
	}
	if min(joins, none) < 500 {
		t.Fatalf("%d joins, none of %d", joins, none)
	}
}

// TestLevi: S6, of two ways to part equal seams.
func TestLevi(t *testing.T) {
	r := rand.New(rand.NewSource(6))
	crossed := 0
	for range 10000 {
		c := someCloth(r, api.MaxLetters)
		seam := c.someSeam(r, api.MaxStitch)
		other := c.mixed(r, seam)
		i := r.Intn(len(seam) + 1)
		j := max(0, min(len(seam), i+r.Intn(7)-3))
		s, after, u, v := seam[:i], seam[i:], other[:j], other[j:]
		x := c.meetOf(t, s, u)
		y, z := c.restOf(t, x, s), c.restOf(t, x, u)
		if c.restOf(t, z, after) != c.restOf(t, y, v) {
			t.Fatalf("%v: %q and %q, %q and %q: different rests", c, s, after, u, v)
		}
		for _, a := range []byte(y) {
			for _, b := range []byte(z) {
				if !c.commute(a, b) {
					t.Fatalf("%v: %q and %q: %q and %q do not commute", c, s, u, y, z)
				}
			}
		}
		if y != "" && z != "" {
			crossed++
		}
	}
	if crossed < 500 {
		t.Fatalf("%d cases with letters on both sides", crossed)
	}
}

func TestJoinKnown(t *testing.T) {
	long := func(letter string) string { return strings.Repeat(letter, api.MaxStitch) }
	ab := cloth{2, allPairs(2)}
	cases := []struct {
		c          cloth
		s, u       string
		meet, join string
		e          api.Errno
	}{
		{ab, "", "", "", "", api.OK},
		{ab, "", "ba", "", "ab", api.OK},
		{ab, "a", "a", "a", "a", api.OK},
		{ab, "aab", "ab", "ab", "aab", api.OK},
		{ab, "aab", "abb", "ab", "aabb", api.OK},
		{ab, long("b"), long("a"), "", long("a") + long("b"), api.OK}, // more than MaxStitch letters
		{ab, long("b"), "a", "", "a" + long("b"), api.OK},
		{ab, long("a"), long("a"), long("a"), long("a"), api.OK},
		{cloth{k: 2}, "a", "b", "", "", api.ErrNone},
		{cloth{k: 2}, "ab", "a", "a", "ab", api.OK},
		{cloth{k: 2}, "ab", "aa", "a", "", api.ErrNone},
		{cloth{k: 2}, long("a"), long("b"), "", "", api.ErrNone},
		{cloth{k: 1}, long("a"), "a", "a", long("a"), api.OK},
		{example(), "ac", "bc", "", "", api.ErrNone},
		{example(), "ca", "cb", "c", "cab", api.OK},
		{example(), "ab", "bac", "ab", "abc", api.OK},
		{example(), "aab", "ac", "a", "", api.ErrNone},
	}
	for _, c := range cases {
		if meet := c.c.meetOf(t, c.s, c.u); meet != c.meet {
			t.Errorf("%v: Meet(%q, %q) = %q", c.c, c.s, c.u, meet)
		}
		if join, e := Join(c.c.k, c.c.pairs, c.s, c.u); e != c.e || join != c.join {
			t.Errorf("%v: Join(%q, %q) = %q, %d", c.c, c.s, c.u, join, e)
		}
	}
}
