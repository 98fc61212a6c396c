package chest

import (
	"slices"
	"strings"

	"pommel/api"
)

// How a chest is written: the first byte of the root page is the number of the page of the branch, or 0 if no tree was ever committed, and the title follows; a branch has the numbers of the pages of its leaves, a leaf has its entries. From commit to commit the root page changes in one byte alone, so that it names the old tree or the new one wherever its writing breaks off.

const rootPage = 0

// title follows the first byte of the root page. It does not end with a zero byte: a beginning of it that is followed by zeros is known as one.
const title = "pommel chest"

// The first bytes of branches and leaves.
const (
	branchKind = 'b'
	leafKind   = 'l'
)

// bytes returns what is written of a branch.
func (t tree) bytes() []byte {
	b := []byte{branchKind, byte(len(t.leaves))}
	for _, l := range t.leaves {
		b = append(b, byte(l.page))
	}
	return b
}

// bytes returns what is written of a leaf.
func (l leaf) bytes() []byte {
	b := []byte{leafKind, byte(len(l.entries))}
	for _, e := range l.entries {
		b = append(b, byte(len(e.Key)), byte(len(e.Value)))
		b = append(b, e.Key...)
		b = append(b, e.Value...)
	}
	return b
}

// record makes a tree that is written the current one, from the last sync on.
func record(d *Disk, t tree) api.Errno {
	if e := d.Write(rootPage, append([]byte{byte(t.page)}, title...)); e != api.OK {
		return e
	}
	return d.Sync()
}

// write writes what is not yet written of a tree to free pages, and returns the tree with all its pages.
func write(d *Disk, t tree, free []int) (tree, api.Errno) {
	t.leaves = slices.Clone(t.leaves)
	for i, l := range t.leaves {
		if l.page != 0 {
			continue
		}
		if e := d.Write(free[0], l.bytes()); e != api.OK {
			return tree{}, e
		}
		t.leaves[i].page = free[0]
		free = free[1:]
	}
	t.page = free[0]
	if e := d.Write(t.page, t.bytes()); e != api.OK {
		return tree{}, e
	}
	return t, d.Sync()
}

// free returns the pages that may be written over while a tree is the current one.
func (t tree) free() []int {
	var used [api.MaxPages]bool
	used[rootPage] = true
	used[t.page] = true
	for _, l := range t.leaves {
		used[l.page] = true
	}
	var list []int
	for page, is := range used {
		if !is {
			list = append(list, page)
		}
	}
	return list
}

// read returns the current tree of a disk; ErrForm if its pages are not those of a chest.
func read(d *Disk) (t tree, e api.Errno) {
	defer func() {
		if recover() != nil {
			t, e = tree{}, api.ErrForm
		}
	}()
	if isBlank(d) {
		return emptyTree(), api.OK
	}
	root := pageOf(d, rootPage)
	branch := root.number(0, api.MaxPages-1)
	check(root.take(len(title)) == title)
	root.end()
	if branch == 0 {
		return emptyTree(), api.OK
	}
	t = readTree(d, branch)
	check(t.isSound())
	return t, api.OK
}

// isBlank reports whether no chest was ever opened on a disk: all is zeros but what an Open may have written of the root page before the disk went down.
func isBlank(d *Disk) bool {
	for page := range api.MaxPages {
		text := strings.TrimRight(string(d.Read(page)), "\x00")
		if text != "" && (page != rootPage || !strings.HasPrefix("\x00"+title, text)) {
			return false
		}
	}
	return true
}

// check ends the reading of a disk by a panic, unless what was found is as it must be.
func check(ok bool) {
	if !ok {
		panic("the page is malformed")
	}
}

// reader is what is left to be read of a page.
type reader string

func pageOf(d *Disk, page int) *reader {
	r := reader(d.Read(page))
	return &r
}

// take returns the next n bytes.
func (r *reader) take(n int) string {
	text := string((*r)[:n])
	*r = (*r)[n:]
	return text
}

// number returns the next byte as a number, which must be from least to most.
func (r *reader) number(least, most int) int {
	n := int(r.take(1)[0])
	check(n >= least && n <= most)
	return n
}

// end checks that only zeros follow.
func (r *reader) end() {
	check(strings.Trim(string(*r), "\x00") == "")
}

func readTree(d *Disk, page int) tree {
	r := pageOf(d, page)
	r.number(branchKind, branchKind)
	t := tree{page: page}
	for range r.number(1, mostLeaves) {
		t.leaves = append(t.leaves, readLeaf(d, r.number(1, api.MaxPages-1)))
	}
	r.end()
	return t
}

func readLeaf(d *Disk, page int) leaf {
	r := pageOf(d, page)
	r.number(leafKind, leafKind)
	l := leaf{page: page}
	for range r.number(0, mostInLeaf) {
		keyLength := r.number(1, api.MaxKey)
		valueLength := r.number(0, api.MaxValue)
		key := r.take(keyLength)
		value := r.take(valueLength)
		l.entries = append(l.entries, api.Entry{Key: key, Value: value})
	}
	r.end()
	return l
}

// isSound reports whether a tree that was read is one that a chest can have: its keys rise, there are not too many, and no neighbours have room on one page.
func (t tree) isSound() bool {
	for i := 1; i < len(t.leaves); i++ {
		if len(t.leaves[i-1].entries)+len(t.leaves[i].entries) <= mostInLeaf {
			return false
		}
	}
	list := t.scan("", "")
	for i := 1; i < len(list); i++ {
		if list[i-1].Key >= list[i].Key {
			return false
		}
	}
	return len(list) <= api.MaxEntries
}
