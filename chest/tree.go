package chest

import (
	"slices"
	"sort"
	"strings"

	"pommel/api"
)

// mostInLeaf is how many entries a page always has room for, with its kind, its number of entries and the lengths of the strings, a byte each.
const mostInLeaf = (api.PageSize - 2) / (api.MaxKey + api.MaxValue + 2)

// mostLeaves is how many leaves a tree can have. Any two neighbours together have more entries than a page has room for; so a tree is at most 41 pages with its branch, and there is always room on the disk for a second one that shares no page with it.
const mostLeaves = 2 * api.MaxEntries / (mostInLeaf + 1)

// leaf is some entries, by their keys in byte order. They are never changed, as several trees may share them.
type leaf struct {
	page    int // where it is written, or 0 if it is not yet
	entries []api.Entry
}

// tree is all entries: a branch and its leaves, of which there is at least one, and of several none is empty. A tree is never changed: what changes it makes another one, which shares the other leaves.
type tree struct {
	page   int // where the branch is written, or 0 if it is not yet
	leaves []leaf
}

// emptyTree returns the tree of a chest without entries.
func emptyTree() tree {
	return tree{leaves: []leaf{{}}}
}

// find returns the leaf to which a key belongs, its place among the entries of that leaf, and whether it is there.
func (t tree) find(key string) (at, place int, found bool) {
	at = sort.Search(len(t.leaves)-1, func(i int) bool { return key < t.leaves[i+1].entries[0].Key })
	place, found = slices.BinarySearchFunc(t.leaves[at].entries, key, func(e api.Entry, key string) int { return strings.Compare(e.Key, key) })
	return at, place, found
}

// get returns the value of a key, and whether it is there.
func (t tree) get(key string) (string, bool) {
	at, place, found := t.find(key)
	if !found {
		return "", false
	}
	return t.leaves[at].entries[place].Value, true
}

// scan returns the entries from a key on to before another one; to the end, if that is empty.
func (t tree) scan(from, to string) []api.Entry {
	var list []api.Entry
	for _, l := range t.leaves {
		for _, e := range l.entries {
			if e.Key >= from && (to == "" || e.Key < to) {
				list = append(list, e)
			}
		}
	}
	return list
}

// count returns how many entries there are.
func (t tree) count() int {
	n := 0
	for _, l := range t.leaves {
		n += len(l.entries)
	}
	return n
}

// with returns the tree with an entry, instead of that of the same key if there is one.
func (t tree) with(e api.Entry) tree {
	at, place, found := t.find(e.Key)
	entries := slices.Clone(t.leaves[at].entries)
	if found {
		entries[place] = e
	} else {
		entries = slices.Insert(entries, place, e)
	}
	return t.change(at, entries)
}

// without returns the tree without a key that is there.
func (t tree) without(key string) tree {
	at, place, _ := t.find(key)
	entries := slices.Clone(t.leaves[at].entries)
	return t.change(at, slices.Delete(entries, place, place+1))
}

// change returns the tree in which a leaf has these entries: it is parted if they are too many for a page, and joined with its neighbours if one page is enough.
func (t tree) change(at int, entries []api.Entry) tree {
	parts := []leaf{{entries: entries}}
	if half := len(entries) / 2; len(entries) > mostInLeaf {
		parts = []leaf{{entries: entries[:half]}, {entries: entries[half:]}}
	}
	var leaves []leaf
	for _, l := range slices.Concat(t.leaves[:at], parts, t.leaves[at+1:]) {
		last := len(leaves) - 1
		if last >= 0 && len(leaves[last].entries)+len(l.entries) <= mostInLeaf {
			leaves[last] = leaf{entries: slices.Concat(leaves[last].entries, l.entries)}
		} else {
			leaves = append(leaves, l)
		}
	}
	return tree{leaves: leaves}
}

// clone returns the same tree in new memory.
func (t tree) clone() tree {
	t.leaves = slices.Clone(t.leaves)
	for i, l := range t.leaves {
		t.leaves[i].entries = slices.Clone(l.entries)
	}
	return t
}
