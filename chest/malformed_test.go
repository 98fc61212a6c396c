package chest

import (
	"bytes"
	"math/rand"
	"slices"
	"strings"
	"testing"

	"pommel/api"
)

// checkMalformed checks that an Open of a disk returns ErrForm and changes nothing.
func checkMalformed(t *testing.T, what string, d *Disk) {
	t.Helper()
	text := diskText(d)
	if c, e := Open(d); c != nil || e != api.ErrForm {
		t.Errorf("%s: Open = %t, %d", what, c != nil, e)
	}
	if diskText(d) != text {
		t.Errorf("%s: the disk is changed", what)
	}
}

// checkSomeChest opens a disk on which anything may be: if that is a chest, it can be used as any other one.
func checkSomeChest(t *testing.T, what string, d *Disk) api.Errno {
	t.Helper()
	c, e := Open(d)
	if e != api.OK {
		if e != api.ErrForm || c != nil {
			t.Fatalf("%s: Open = %t, %d", what, c != nil, e)
		}
		return e
	}
	m := contentOf(t, c, now)
	list, _ := c.Scan(now, "", "")
	if len(m) > api.MaxEntries || !slices.Equal(list, m.scan("", "")) {
		t.Fatalf("%s: %v", what, list)
	}
	for key, value := range m {
		if len(key) < 1 || len(key) > api.MaxKey || len(value) > api.MaxValue {
			t.Fatalf("%s: %q %q", what, key, value)
		}
	}
	checkGoesOn(t, d, m)
	return e
}

// TestNoChest: disks that are not all zeros, on which there was no chest.
func TestNoChest(t *testing.T) {
	noRoots := []string{"x", "\x00\x00x", strings.Repeat("\x00", api.PageSize-1) + "\x01", strings.Repeat("\xff", api.PageSize), title, title[1:], title[:1], title[len(title)-1:]}
	for page := range api.MaxPages {
		texts := noRoots
		if page != rootPage {
			texts = append(slices.Clone(noRoots), "\x00"+title, "\x00"+title[:1])
		}
		for _, b := range texts {
			for _, synced := range []bool{false, true} {
				d := NewDisk()
				checkErrno(t, "Write", d.Write(page, []byte(b)), api.OK)
				if synced {
					d.Sync()
				}
				if c, e := Open(d); c != nil || e != api.ErrForm {
					t.Errorf("the page %d begins with %q: Open = %t, %d", page, b[:1], c != nil, e)
				}
			}
		}
	}
	for _, fill := range []byte{1, 2, 'b', 'l', 0x7f, 0xff} {
		d := NewDisk()
		for page := range api.MaxPages {
			d.Write(page, bytes.Repeat([]byte{fill}, api.PageSize))
		}
		d.Arm(2)
		checkMalformed(t, "all bytes are the same", d)
	}
	zeros := NewDisk()
	zeros.Write(7, []byte("x"))
	zeros.Sync()
	zeros.Write(7, nil)
	checkContent(t, "all zeros again", opened(t, zeros), now, nil)
	zeros.Restart(0) // what Open found is there in every later one
	checkContent(t, "all zeros again", opened(t, zeros), now, nil)
}

// TestBeginning: of a beginning of a root page there is a chest only on a disk without anything else.
func TestBeginning(t *testing.T) {
	whole := "\x00" + title
	for n := range len(whole) {
		d := NewDisk()
		d.Write(rootPage, []byte(whole[:n]))
		checkContent(t, "a beginning", opened(t, d.Clone()), now, nil)
		for _, page := range []int{1, api.MaxPages - 1} {
			other := d.Clone()
			other.Write(page, []byte("x"))
			checkMalformed(t, "a beginning and another page", other)
		}
		if n > 0 {
			d.Write(rootPage, []byte("\x01"+whole[1:n]))
			checkMalformed(t, "a beginning with a tree", d)
			d.Write(rootPage, []byte(whole[:n]+"~"))
			checkMalformed(t, "not a beginning", d)
		}
	}
	d := NewDisk()
	d.Write(rootPage, []byte(whole+"!"))
	checkMalformed(t, "a longer title", d)
}

// TestEachByte: each byte of each page that is used is another one; as a rule, that is noticed.
func TestEachByte(t *testing.T) {
	c := chestWith(t, numbered(22, "value"))
	pages := used(t, c.Disk())
	noticed, all := 0, 0
	for _, page := range pages {
		old := c.Disk().Read(page)
		for i := range api.PageSize {
			for _, other := range []byte{0, 1, 2, 9, 10, 17, 0xff, old[i] + 1, old[i] - 1} {
				if other == old[i] {
					continue
				}
				d := c.Disk().Clone()
				b := slices.Clone(old)
				b[i] = other
				d.Write(page, b)
				all++
				if checkSomeChest(t, "a byte is another one", d) != api.OK {
					noticed++
				}
			}
		}
	}
	if noticed < all/2 {
		t.Errorf("%d of %d were noticed", noticed, all)
	}
}

// TestNoise: pages of which some are noise or those of other trees.
func TestNoise(t *testing.T) {
	r := rand.New(rand.NewSource(12))
	whole := chestWith(t, someContent(r, api.MaxEntries)).Disk()
	pages := used(t, whole)
	found := map[api.Errno]int{}
	for range 3000 {
		d := whole.Clone()
		for range 1 + r.Intn(3) {
			page := pages[r.Intn(len(pages))]
			switch r.Intn(4) {
			case 0:
				b := make([]byte, api.PageSize)
				r.Read(b)
				d.Write(page, b)
			case 1:
				d.Write(page, d.Read(pages[r.Intn(len(pages))]))
			case 2:
				d.Write(page, d.Read(page)[:r.Intn(api.PageSize)])
			case 3:
				b := d.Read(page)
				b[r.Intn(len(b))] = byte(r.Intn(256))
				d.Write(page, b)
			}
		}
		found[checkSomeChest(t, "noise", d)]++
	}
	if found[api.OK] == 0 || found[api.ErrForm] == 0 {
		t.Errorf("errors %v", found)
	}
}

// leafOf returns what is written of a leaf with these keys, and a value of a byte.
func leafOf(keys ...string) []byte {
	var l leaf
	for _, key := range keys {
		l.entries = append(l.entries, api.Entry{Key: key, Value: "x"})
	}
	return l.bytes()
}

// keysFrom returns n keys that rise.
func keysFrom(from byte, n int) []string {
	var keys []string
	for i := range n {
		keys = append(keys, string([]byte{from, byte(i)}))
	}
	return keys
}

// diskOf returns a disk with a root page, a branch on page 1 and leaves on the pages after it.
func diskOf(branch []byte, leaves ...[]byte) *Disk {
	d := NewDisk()
	d.Write(rootPage, []byte("\x01"+title))
	d.Write(1, branch)
	for i, b := range leaves {
		d.Write(2+i, b)
	}
	d.Sync()
	return d
}

// branchOf returns what is written of a branch with leaves on these pages.
func branchOf(pages ...int) []byte {
	var x tree
	for _, page := range pages {
		x.leaves = append(x.leaves, leaf{page: page})
	}
	return x.bytes()
}

// TestPages: pages by hand, of a chest and malformed.
func TestPages(t *testing.T) {
	nine, more := keysFrom('c', 9), keysFrom('d', 9)
	first, second := leafOf(nine...), leafOf(more...)
	one := leafOf("a")
	var big [][]byte
	for i := range 23 {
		big = append(big, leafOf(keysFrom(byte('c'+i), 9)...))
	}
	var lone [][]byte
	for i := range mostLeaves + 1 {
		lone = append(lone, leafOf(keysFrom(byte('c'+i), 5)...))
	}
	long := leafOf("a")
	long[1] = 10
	for _, x := range []struct {
		name   string
		branch []byte
		leaves [][]byte
		want   api.Errno
	}{
		{"one entry", branchOf(2), [][]byte{one}, api.OK},
		{"no entry", branchOf(2), [][]byte{leafOf()}, api.OK},
		{"two leaves", branchOf(2, 3), [][]byte{first, second}, api.OK},
		{"two leaves with ten entries", branchOf(2, 3), [][]byte{one, second}, api.OK},
		{"as many leaves as there can be", branchOf(numbers(2, 2+mostLeaves)...), lone[:mostLeaves], api.OK},
		{"too many leaves", branchOf(numbers(2, 3+mostLeaves)...), lone, api.ErrForm},
		{"exactly MaxEntries entries", branchOf(numbers(2, 25)...), append(slices.Clone(big[:22]), leafOf("z1", "z2")), api.OK},
		{"one entry too many", branchOf(numbers(2, 25)...), append(slices.Clone(big[:22]), leafOf("z1", "z2", "z3")), api.ErrForm},
		{"far too many entries", branchOf(numbers(2, 25)...), big, api.ErrForm},
		{"two leaves that one page has room for", branchOf(2, 3), [][]byte{one, leafOf(more[:8]...)}, api.ErrForm},
		{"two leaves of one entry", branchOf(2, 3), [][]byte{one, leafOf("b")}, api.ErrForm},
		{"an empty leaf beside a full one", branchOf(2, 3), [][]byte{leafOf(), second}, api.ErrForm},
		{"no leaf", branchOf(), nil, api.ErrForm},
		{"no branch", nil, [][]byte{one}, api.ErrForm},
		{"a leaf as the branch", one, [][]byte{one}, api.ErrForm},
		{"a branch as a leaf", branchOf(2), [][]byte{branchOf(2)}, api.ErrForm},
		{"the branch as its leaf", branchOf(1), nil, api.ErrForm},
		{"the root page as a leaf", branchOf(0), nil, api.ErrForm},
		{"zeros as a leaf", branchOf(3), [][]byte{one}, api.ErrForm},
		{"more after the branch", append(branchOf(2), 1), [][]byte{one}, api.ErrForm},
		{"more after a leaf", branchOf(2), [][]byte{append(leafOf("a"), 1)}, api.ErrForm},
		{"more at the end of the branch", append(branchOf(2), filled(nil)[:252]...), [][]byte{one}, api.OK},
		{"keys that fall", branchOf(2), [][]byte{leafOf("b", "a")}, api.ErrForm},
		{"keys that are the same", branchOf(2), [][]byte{leafOf("b", "b")}, api.ErrForm},
		{"keys that fall to the next leaf", branchOf(2, 3), [][]byte{second, first}, api.ErrForm},
		{"a leaf twice", branchOf(2, 2), [][]byte{first}, api.ErrForm},
		{"the same key in the next leaf", branchOf(2, 3), [][]byte{first, leafOf(append([]string{nine[8]}, more[1:]...)...)}, api.ErrForm},
		{"an empty key", branchOf(2), [][]byte{leafOf("")}, api.ErrForm},
		{"the longest key", branchOf(2), [][]byte{leafOf("12345678")}, api.OK},
		{"a longer key", branchOf(2), [][]byte{leafOf("123456789")}, api.ErrForm},
		{"the longest value", branchOf(2), [][]byte{valueOf(16)}, api.OK},
		{"no value", branchOf(2), [][]byte{valueOf(0)}, api.OK},
		{"a longer value", branchOf(2), [][]byte{valueOf(17)}, api.ErrForm},
		{"ten entries", branchOf(2), [][]byte{leafOf(keysFrom('a', 10)...)}, api.ErrForm},
		{"more entries than there are", branchOf(2), [][]byte{long}, api.ErrForm},
	} {
		t.Run(x.name, func(t *testing.T) {
			d := diskOf(x.branch, x.leaves...)
			if x.want == api.ErrForm {
				checkMalformed(t, x.name, d)
			} else if e := checkSomeChest(t, x.name, d); e != api.OK {
				t.Errorf("Open: %d", e)
			}
		})
	}
}

// TestLastPage: the branch and a leaf on the last page.
func TestLastPage(t *testing.T) {
	for _, branch := range []int{api.MaxPages - 2, api.MaxPages - 1} {
		leafPage := 2*api.MaxPages - 3 - branch // the other one
		d := NewDisk()
		d.Write(rootPage, append([]byte{byte(branch)}, title...))
		d.Write(branch, branchOf(leafPage))
		d.Write(leafPage, leafOf("a"))
		checkContent(t, "on the last page", opened(t, d.Clone()), now, content{"a": "x"})
		checkErrno(t, "Open", checkSomeChest(t, "on the last page", d), api.OK)
	}
}

// valueOf returns what is written of a leaf with an entry whose value has n bytes.
func valueOf(n int) []byte {
	l := leaf{entries: []api.Entry{{Key: "a", Value: strings.Repeat("x", n)}}}
	return l.bytes()
}

// TestEnds: junk behind the last byte that is read, up to the end of the page.
func TestEnds(t *testing.T) {
	c := chestWith(t, numbered(9, "value"))
	for _, page := range used(t, c.Disk()) {
		for _, i := range []int{240, api.PageSize - 1} {
			d := c.Disk().Clone()
			b := d.Read(page)
			b[i] = 1
			d.Write(page, b)
			checkMalformed(t, "junk", d)
		}
	}
}

// TestOpenErrors: the order of errors: a disk that is down comes before one that is malformed.
func TestOpenErrors(t *testing.T) {
	d := NewDisk()
	d.Write(0, []byte("x"))
	d.Arm(1)
	d.Sync()
	if c, e := Open(d); c != nil || e != api.ErrDown {
		t.Errorf("Open = %t, %d", c != nil, e)
	}
	d.Restart(api.PageSize)
	checkMalformed(t, "up again", d)
	d.Arm(1)
	checkMalformed(t, "armed", d)
	d.Restart(0)
	checkMalformed(t, "synced", d)
}

// TestUnsynced: pages of a chest that someone has copied to another disk and not synced: what Open found there stays.
func TestUnsynced(t *testing.T) {
	m := numbered(30, "copy")
	c := chestWith(t, m)
	d := NewDisk()
	for page := range api.MaxPages {
		checkErrno(t, "Write", d.Write(page, c.Disk().Read(page)), api.OK)
	}
	checkContent(t, "copied", opened(t, d), now, m)
	d.Restart(0)
	checkContent(t, "copied and opened", opened(t, d), now, m)
}
