package stitch

import (
	"math/rand"
	"slices"
	"strings"
	"testing"

	"pommel/api"
)

// cloth is threads.
type cloth struct {
	k     int
	pairs []api.Pair
}

// commute decides by the list itself.
func (c cloth) commute(a, b byte) bool {
	p := api.Pair{A: int(a) - 'a', B: int(b) - 'a'}
	return slices.Contains(c.pairs, p) || slices.Contains(c.pairs, api.Pair{A: p.B, B: p.A})
}

// class returns all seams that are equal to one, in byte order: those that exchanges lead to.
func (c cloth) class(seam string) []string {
	list := []string{seam}
	seen := map[string]bool{seam: true}
	for i := 0; i < len(list); i++ { // list grows
		for j := 1; j < len(seam); j++ {
			letters := []byte(list[i])
			if !c.commute(letters[j-1], letters[j]) {
				continue
			}
			letters[j-1], letters[j] = letters[j], letters[j-1]
			if next := string(letters); !seen[next] {
				seen[next] = true
				list = append(list, next)
			}
		}
	}
	slices.Sort(list)
	return list
}

// projected decides by S2 whether two seams are equal.
func (c cloth) projected(s, t string) bool {
	for a := range byte(c.k) {
		for b := range a + 1 {
			if !c.commute('a'+a, 'a'+b) && only(s, 'a'+a, 'a'+b) != only(t, 'a'+a, 'a'+b) {
				return false
			}
		}
	}
	return true
}

// only returns a seam without all letters but two.
func only(seam string, a, b byte) string {
	return strings.Map(func(r rune) rune {
		if r == rune(a) || r == rune(b) {
			return r
		}
		return -1
	}, seam)
}

// mixed returns an equal seam: random letters are exchanged to its beginning, one after the other, as far as they commute.
func (c cloth) mixed(r *rand.Rand, seam string) string {
	letters := []byte(seam)
	for from := range letters {
		at := from + r.Intn(len(letters)-from)
		for ; at > from && c.commute(letters[at-1], letters[at]); at-- {
			letters[at-1], letters[at] = letters[at], letters[at-1]
		}
	}
	return string(letters)
}

// someSeam returns a random seam of up to most letters.
func (c cloth) someSeam(r *rand.Rand, most int) string {
	letters := make([]byte, r.Intn(most+1))
	for i := range letters {
		letters[i] = 'a' + byte(r.Intn(c.k))
	}
	return string(letters)
}

// allPairs returns the pairs of k letters, each one once.
func allPairs(k int) []api.Pair {
	var pairs []api.Pair
	for a := range k {
		for b := range a {
			pairs = append(pairs, api.Pair{A: b, B: a})
		}
	}
	return pairs
}

// someCloth returns random threads; pairs come in both orders, and some of them twice.
func someCloth(r *rand.Rand, most int) cloth {
	c := cloth{k: r.Intn(most) + 1}
	often := r.Intn(11)
	for _, p := range allPairs(c.k) {
		if r.Intn(10) >= often {
			continue
		}
		if r.Intn(2) == 0 {
			p.A, p.B = p.B, p.A
		}
		c.pairs = append(c.pairs, p)
		switch r.Intn(6) {
		case 0:
			c.pairs = append(c.pairs, p)
		case 1:
			c.pairs = append(c.pairs, api.Pair{A: p.B, B: p.A})
		}
	}
	r.Shuffle(len(c.pairs), func(i, j int) { c.pairs[i], c.pairs[j] = c.pairs[j], c.pairs[i] })
	return c
}

// allCloths returns all threads of up to most letters, each pair once.
func allCloths(most int) []cloth {
	var cloths []cloth
	for k := 1; k <= most; k++ {
		all := allPairs(k)
		for set := range 1 << len(all) {
			c := cloth{k: k}
			for i, p := range all {
				if set>>i&1 == 1 {
					c.pairs = append(c.pairs, p)
				}
			}
			cloths = append(cloths, c)
		}
	}
	return cloths
}

// allSeams returns all seams of up to most letters, those with fewer letters first.
func (c cloth) allSeams(most int) []string {
	seams := []string{""}
	for i := 0; i < len(seams) && len(seams[i]) < most; i++ { // seams grows
		for a := range byte(c.k) {
			seams = append(seams, seams[i]+string([]byte{'a' + a}))
		}
	}
	return seams
}

// The functions, of arguments without an error.

func (c cloth) stepsOf(t *testing.T, s string) []string {
	t.Helper()
	steps, e := Steps(c.k, c.pairs, s)
	check(t, c, e, s)
	return steps
}

func (c cloth) leastOf(t *testing.T, s string) string {
	t.Helper()
	least, e := Least(c.k, c.pairs, s)
	check(t, c, e, s)
	return least
}

func (c cloth) equal(t *testing.T, s, u string) bool {
	t.Helper()
	equal, e := Equal(c.k, c.pairs, s, u)
	check(t, c, e, s, u)
	return equal
}

func (c cloth) waysOf(t *testing.T, s string) int {
	t.Helper()
	ways, e := Ways(c.k, c.pairs, s)
	check(t, c, e, s)
	return ways
}

func (c cloth) meetOf(t *testing.T, s, u string) string {
	t.Helper()
	meet, e := Meet(c.k, c.pairs, s, u)
	check(t, c, e, s, u)
	return meet
}

func (c cloth) restOf(t *testing.T, s, u string) string {
	t.Helper()
	rest, e := Rest(c.k, c.pairs, s, u)
	check(t, c, e, s, u)
	return rest
}

func (c cloth) partsOf(t *testing.T, s string) []string {
	t.Helper()
	parts, e := Parts(c.k, c.pairs, s)
	check(t, c, e, s)
	return parts
}

func check(t *testing.T, c cloth, e api.Errno, seams ...string) {
	t.Helper()
	if e != api.OK {
		t.Fatalf("%v: %q: error %d", c, seams, e)
	}
}
