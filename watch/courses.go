package watch

import (
	"maps"
	"slices"

	"pommel/api"
)

// maxSet is how many cuts a set may have.
const maxSet = 2500

// next returns the consistent cuts with one deed more, in lexicographic order: that of the last hand is the least.
func (t story) next(c cut) []cut {
	var list []cut
	for hand := len(t.clocks) - 1; hand >= 0; hand-- {
		longer := c
		longer[hand]++
		if longer[hand] <= t.end[hand] && t.isConsistent(longer) {
			list = append(list, longer)
		}
	}
	return list
}

// ways returns all consistent cuts, with how many ways lead to each from the one with zeros, deed by deed.
func (t story) ways() map[cut]int {
	all := map[cut]int{}
	level := map[cut]int{{}: 1} // those with the same number of deeds
	for len(level) > 0 {
		further := map[cut]int{}
		for c, ways := range level {
			all[c] = ways
			for _, longer := range t.next(c) {
				further[longer] += ways
			}
		}
		level = further
	}
	return all
}

// cuts returns all consistent cuts, in lexicographic order.
func (t story) cuts() []cut {
	return inOrder(t.ways())
}

// inOrder returns the cuts that are keys of a map, in lexicographic order.
func inOrder[V any](set map[cut]V) []cut {
	return slices.SortedFunc(maps.Keys(set), func(a, b cut) int { return slices.Compare(a[:], b[:]) })
}

// readWithSet returns a story and a set of its cuts.
func readWithSet(s api.Story, lists [][]int) (story, map[cut]bool, api.Errno) {
	t, e := readStory(s)
	if e != api.OK {
		return story{}, nil, e
	}
	if len(lists) > maxSet {
		return story{}, nil, api.ErrLong
	}
	set := map[cut]bool{}
	for _, list := range lists {
		c, ok := t.readCut(list)
		if !ok {
			return story{}, nil, api.ErrForm
		}
		set[c] = true
	}
	return t, set, api.OK
}

// course returns the least way from a consistent cut to the end that has no cut of a set, or nil. Cuts from which there is none are put into the set, so that none is tried twice.
func (t story) course(from cut, without map[cut]bool) []cut {
	if without[from] {
		return nil
	}
	if from == t.end {
		return []cut{from}
	}
	for _, longer := range t.next(from) {
		if rest := t.course(longer, without); rest != nil {
			return slices.Insert(rest, 0, from)
		}
	}
	without[from] = true
	return nil
}

// readWithFlags returns a story, if flags are well-formed.
func readWithFlags(s api.Story, flags [][]bool) (story, api.Errno) {
	t, e := readStory(s)
	if e != api.OK {
		return story{}, e
	}
	if len(flags) != len(t.clocks) {
		return story{}, api.ErrForm
	}
	for hand, says := range flags {
		if len(says) != t.end[hand]+1 {
			return story{}, api.ErrForm
		}
	}
	return t, api.OK
}

// allSay reports whether all hands say yes after what they have done.
func allSay(flags [][]bool, done func(hand int) int) bool {
	for hand, says := range flags {
		if !says[done(hand)] {
			return false
		}
	}
	return true
}

// agreed returns all consistent cuts at which all hands say yes put into one, two by two: their meet, or their join, is one of them.
func agreed(s api.Story, flags [][]bool, put func(a, b cut) cut) ([]int, api.Errno) {
	t, e := readWithFlags(s, flags)
	if e != api.OK {
		return nil, e
	}
	var agree []cut
	for _, c := range t.cuts() {
		if allSay(flags, c.done) {
			agree = append(agree, c)
		}
	}
	if agree == nil {
		return nil, api.ErrNone
	}
	one := agree[0]
	for _, c := range agree[1:] {
		one = put(one, c)
	}
	return t.list(one), api.OK
}
