package chest

import (
	"fmt"
	"maps"
	"math/rand"
	"slices"
	"testing"

	"pommel/api"
)

// checkRoom checks that a tree is as the room on the disk asks for: each leaf fits on a page, no two neighbours on one, and the pages that are used are different ones.
func checkRoom(t *testing.T, c *Chest) {
	t.Helper()
	for _, x := range []tree{c.committed, c.changed} {
		if len(x.leaves) < 1 || len(x.leaves) > mostLeaves || !x.isSound() {
			t.Fatalf("%d leaves, sound %t", len(x.leaves), x.isSound())
		}
		for _, l := range x.leaves {
			if b := l.bytes(); len(l.entries) > mostInLeaf || len(b) > api.PageSize {
				t.Fatalf("%d entries, %d bytes", len(l.entries), len(b))
			}
		}
	}
	if n, want := len(c.committed.free()), api.MaxPages-2-len(c.committed.leaves); n != want {
		t.Fatalf("%d pages are free, want %d", n, want)
	}
}

// commitAll commits, checks what is there, and opens the chest of a clone of the disk.
func commitAll(t *testing.T, c *Chest, want content) {
	t.Helper()
	checkErrno(t, "Commit", c.Commit(), api.OK)
	checkContent(t, "committed", c, now, want)
	checkRoom(t, c)
	checkContent(t, "opened again", opened(t, c.Disk().Clone()), now, want)
}

// TestOrders: keys that come in many orders, and go in many orders, committed each time.
func TestOrders(t *testing.T) {
	r := rand.New(rand.NewSource(9))
	n := api.MaxEntries
	up, some := numbers(0, n), r.Perm(n)
	down := slices.Clone(up)
	slices.Reverse(down)
	var ends []int // from both ends on
	for i := range n {
		ends = append(ends, []int{i / 2, n - 1 - i/2}[i%2])
	}
	most := 0
	for _, come := range [][]int{up, down, some, ends} {
		for _, leave := range [][]int{up, down, some, ends} {
			c, m := opened(t, NewDisk()), content{}
			for _, i := range come {
				key, value := fmt.Sprintf("key%05d", i), fmt.Sprintf("value%011d", i)
				checkErrno(t, "Put", c.Put(key, value), api.OK)
				m[key] = value
				commitAll(t, c, m)
			}
			most = max(most, len(c.committed.leaves))
			for _, i := range leave {
				key := fmt.Sprintf("key%05d", i)
				checkErrno(t, "Delete", c.Delete(key), api.OK)
				delete(m, key)
				commitAll(t, c, m)
			}
		}
	}
	if most != mostLeaves {
		t.Errorf("at most %d leaves, want %d", most, mostLeaves)
	}
}

// TestRoom: B7, with MaxViews views of different trees all the time, and as many entries as there can be.
func TestRoom(t *testing.T) {
	r := rand.New(rand.NewSource(10))
	for _, n := range []int{api.MaxEntries - 1, api.MaxEntries} {
		m := numbered(n, "first")
		c := chestWith(t, m)
		want := map[int]content{}
		for round := range 500 {
			if len(want) == api.MaxViews {
				oldest := slices.Min(slices.Collect(maps.Keys(want)))
				checkErrno(t, "Drop", c.Drop(oldest), api.OK)
				delete(want, oldest)
			}
			want[viewed(t, c)] = m
			m = anotherContent(r, m, round, n)
			become(t, c, m)
			commitAll(t, c, m)
			for view, old := range want {
				checkContent(t, "a view", c, view, old)
			}
			if round%100 == 99 {
				c = opened(t, c.Disk())
				clear(want)
			}
		}
	}
}

// anotherContent changes everything, or a few entries, or takes those away that leave few in each leaf.
func anotherContent(r *rand.Rand, m content, round, n int) content {
	switch round % 5 {
	case 0:
		return numbered(n, fmt.Sprint(round))
	case 1:
		m = maps.Clone(m)
		i := 0
		for _, e := range m.scan("", "") {
			if i++; i%10 > 4 {
				delete(m, e.Key)
			}
		}
		return m
	case 2:
		m = maps.Clone(m)
		for len(m) < n {
			m[someString(r, 1, api.MaxKey)] = someString(r, 0, api.MaxValue)
		}
		return m
	case 3:
		return someContent(r, n)
	}
	return someChange(r, m, 40)
}

// TestLongest: MaxEntries of the longest keys and values, all changed at once, again and again.
func TestLongest(t *testing.T) {
	c := opened(t, NewDisk())
	for i := range 30 {
		m := numbered(api.MaxEntries, fmt.Sprint(i))
		become(t, c, m)
		commitAll(t, c, m)
		if i < api.MaxViews {
			viewed(t, c)
		}
		if i%10 == 9 {
			become(t, c, nil)
			commitAll(t, c, nil)
		}
	}
	for view := range api.MaxViews {
		checkContent(t, "a view", c, view, numbered(api.MaxEntries, fmt.Sprint(view)))
	}
}

// TestOver: no page of the current tree is written over, whatever changes; only the root page is, in its first byte.
func TestOver(t *testing.T) {
	r := rand.New(rand.NewSource(11))
	m := someContent(r, 120)
	c := chestWith(t, m)
	for range 300 {
		m = someChange(r, m, 1+r.Intn(30))
		become(t, c, m)
		before := c.Disk().Clone()
		checkErrno(t, "Commit", c.Commit(), api.OK)
		for _, page := range used(t, before) {
			old, new := before.Read(page), c.Disk().Read(page)
			if page == rootPage {
				old, new = old[1:], new[1:]
			}
			if string(old) != string(new) {
				t.Fatalf("the page %d was %q, is %q", page, old, new)
			}
		}
	}
}

// TestShare: a change of one entry writes its leaf and the branch alone, however many entries the leaves have.
func TestShare(t *testing.T) {
	up, down := opened(t, NewDisk()), opened(t, NewDisk())
	for i := range api.MaxEntries {
		checkErrno(t, "Put", up.Put(fmt.Sprintf("key%05d", i), ""), api.OK)
		checkErrno(t, "Put", down.Put(fmt.Sprintf("key%05d", api.MaxEntries-i), ""), api.OK)
	}
	uneven := opened(t, diskOf(branchOf(2, 3), leafOf("a"), leafOf(keysFrom('b', mostInLeaf)...)))
	for _, c := range []*Chest{up, down, uneven} {
		checkErrno(t, "Commit", c.Commit(), api.OK)
		for key := range contentOf(t, c, now) {
			before := used(t, c.Disk())
			checkErrno(t, "Put", c.Put(key, "new"), api.OK)
			checkErrno(t, "Commit", c.Commit(), api.OK)
			fresh := 0
			for _, page := range used(t, c.Disk()) {
				if !slices.Contains(before, page) {
					fresh++
				}
			}
			if fresh != 2 {
				t.Fatalf("%d pages are written", fresh)
			}
		}
	}
}
