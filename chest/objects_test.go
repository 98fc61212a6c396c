package chest

import (
	"fmt"
	"math/rand"
	"slices"
	"strings"
	"testing"
	"unsafe"

	"pommel/api"
)

// noChests returns chests that are nil or that no function returned.
func noChests(t *testing.T) []*Chest {
	t.Helper()
	copied := *chestWith(t, content{"a": "1"})
	cloned := *chestWith(t, content{"a": "1"}).Clone()
	return []*Chest{nil, {}, new(Chest), &copied, &cloned}
}

// TestNoChestObject: R1, for all methods.
func TestNoChestObject(t *testing.T) {
	for i, c := range noChests(t) {
		for range 2 {
			for _, key := range []string{"a", "b", "", "123456789"} {
				checkErrno(t, "Put", c.Put(key, "x"), api.ErrState)
				checkErrno(t, "Put", c.Put(key, "12345678901234567"), api.ErrState)
				checkErrno(t, "Delete", c.Delete(key), api.ErrState)
				for view := -2; view < 2; view++ {
					checkGet(t, c, view, key, "", api.ErrState)
				}
			}
			checkErrno(t, "Commit", c.Commit(), api.ErrState)
			checkErrno(t, "Abort", c.Abort(), api.ErrState)
			for view := -2; view < 2; view++ {
				checkErrno(t, "Drop", c.Drop(view), api.ErrState)
				if list, e := c.Scan(view, "", ""); len(list) != 0 || e != api.ErrState {
					t.Errorf("chest %d: Scan = %v, %d", i, list, e)
				}
			}
			if view, e := c.View(); view != 0 || e != api.ErrState {
				t.Errorf("chest %d: View = %d, %d", i, view, e)
			}
			if c.Broken() || c.Disk() != nil || c.Clone() != nil {
				t.Errorf("chest %d: broken %t, disk %t, clone %t", i, c.Broken(), c.Disk() != nil, c.Clone() != nil)
			}
		}
	}
}

// TestBrokenCopy: a copy of the fields of a chest that is broken is no chest, and so not broken.
func TestBrokenCopy(t *testing.T) {
	c := chestWith(t, nil)
	c.Disk().Arm(1)
	checkErrno(t, "Commit", c.Commit(), api.ErrDown)
	copied := *c
	if !c.Broken() || copied.Broken() {
		t.Errorf("broken %t, a copy %t", c.Broken(), copied.Broken())
	}
	down := *c.Disk()
	if !c.Disk().Down() || down.Down() {
		t.Errorf("down %t, a copy %t", c.Disk().Down(), down.Down())
	}
}

// TestDiskGone: a chest to whose disk another value was assigned.
func TestDiskGone(t *testing.T) {
	other := chestWith(t, content{"b": "2"}).Disk()
	for _, value := range []*Disk{{}, other} {
		d := NewDisk()
		c := opened(t, d)
		become(t, c, content{"a": "1"})
		checkErrno(t, "Commit", c.Commit(), api.OK)
		*d = *value
		checkErrno(t, "Sync", d.Sync(), api.ErrState)
		checkErrno(t, "Commit", c.Commit(), api.ErrState)
		checkContent(t, "without a disk", c, now, content{"a": "1"})
		if c.Clone() != nil || c.Disk() != d {
			t.Errorf("clone %t, disk %t", c.Clone() != nil, c.Disk() == d)
		}
		d.Restart(0)
		checkErrno(t, "Put", c.Put("a", ""), api.ErrState)
	}
}

// TestChestClone: a clone is in the same state, and what is done to it or to the chest is not done to the other one.
func TestChestClone(t *testing.T) {
	r := rand.New(rand.NewSource(13))
	for _, n := range []int{0, 1, 30, api.MaxEntries} {
		m := someContent(r, n)
		c, p := chestWith(t, m), newPlainChest(m)
		for range 25 {
			for range 10 {
				someCall(t, r, c, p)
			}
			clone, q := c.Clone(), p.clone()
			if clone == c || clone.Disk() == c.Disk() || chestText(clone) != chestText(c) {
				t.Fatal("a clone is not in the same state")
			}
			for range 10 {
				someCall(t, r, c, p)
				someCall(t, r, clone, q)
				p.checkSame(t, "a chest", c)
				q.checkSame(t, "its clone", clone)
			}
			checkContent(t, "opened again", opened(t, c.Disk().Clone()), now, p.committed)
			checkContent(t, "opened again", opened(t, clone.Disk().Clone()), now, q.committed)
			if r.Intn(2) == 0 {
				c, p = clone, q
			}
		}
	}
}

// TestCloneEnds: a Restart, an Open or a failure of one disk does not end the chest of the other one.
func TestCloneEnds(t *testing.T) {
	for _, end := range []func(d *Disk){
		func(d *Disk) { d.Restart(0) },
		func(d *Disk) { opened(t, d) },
		func(d *Disk) { openDown(t, d) },
	} {
		c := chestWith(t, content{"a": "1"})
		clone := c.Clone()
		end(c.Disk())
		checkErrno(t, "Put", c.Put("b", "2"), api.ErrState)
		checkErrno(t, "Put", clone.Put("b", "2"), api.OK)
		checkErrno(t, "Commit", clone.Commit(), api.OK)
		late := c.Clone() // of a chest that is closed
		checkEnded(t, late)
		end(clone.Disk())
		checkErrno(t, "Put", clone.Put("c", "3"), api.ErrState)
		checkErrno(t, "Commit", late.Commit(), api.ErrState)
	}
}

// TestCloneArmed: the disk of a clone goes down in the same act.
func TestCloneArmed(t *testing.T) {
	c := chestWith(t, numbered(40, "old"))
	become(t, c, numbered(40, "new"))
	for n := -1; n < 30; n++ {
		c.Disk().Arm(n)
		clone := c.Clone()
		whole := c.Clone()
		if e, f := clone.Commit(), whole.Commit(); e != f || diskText(clone.Disk()) != diskText(whole.Disk()) {
			t.Errorf("Arm(%d): %d, %d", n, e, f)
		}
	}
}

// TestScanMemory: R5: what Scan returned is nobody else's.
func TestScanMemory(t *testing.T) {
	m := numbered(30, "value")
	c := chestWith(t, m)
	view := viewed(t, c)
	for _, number := range []int{now, view} {
		first, _ := c.Scan(number, "", "")
		second, _ := c.Scan(number, "", "")
		_ = append(first, api.Entry{Key: "x"})
		clear(first[:cap(first)])
		if !slices.Equal(second, m.scan("", "")) {
			t.Error("results share memory")
		}
		checkContent(t, "written over", c, number, m)
	}
	clone := c.Clone()
	list, _ := clone.Scan(now, "", "")
	clear(list)
	checkContent(t, "a clone", c, now, m)
}

// memoryOf returns where the lists of a chest lie.
func memoryOf(c *Chest) map[any]bool {
	lists := map[any]bool{}
	trees := []tree{c.committed, c.changed}
	for _, view := range c.views {
		trees = append(trees, view)
	}
	for _, x := range trees {
		lists[&x.leaves[0]] = true
		for _, l := range x.leaves {
			lists[&l.entries[0]] = true
		}
	}
	return lists
}

// TestCloneMemory: R5: a clone shares no lists with its chest.
func TestCloneMemory(t *testing.T) {
	c := chestWith(t, numbered(30, "old"))
	viewed(t, c)
	checkErrno(t, "Put", c.Put("key00003", "new"), api.OK)
	before := memoryOf(c)
	clone := c.Clone()
	mine, theirs := memoryOf(c), memoryOf(clone)
	for list := range theirs {
		if mine[list] || before[list] {
			t.Fatal("a clone shares memory")
		}
	}
	if len(mine) < 6 || len(theirs) < len(mine) {
		t.Errorf("%d and %d lists", len(mine), len(theirs))
	}
}

// TestKept: R5: the bytes of the keys and values that are given are not kept.
func TestKept(t *testing.T) {
	c := opened(t, NewDisk())
	for _, key := range []string{"a", "a", "b"} {
		long := strings.Repeat(key, 1000)
		checkErrno(t, "Put", c.Put(long[:1], long[:2]), api.OK)
		list, _ := c.Scan(now, key, "")
		for _, kept := range []string{list[0].Key, list[0].Value} {
			if unsafe.StringData(kept) == unsafe.StringData(long) {
				t.Errorf("%q is kept", kept)
			}
		}
	}
}

// TestSame: R6: the same calls leave the same disk and the same chest.
func TestSame(t *testing.T) {
	texts := map[string]bool{}
	for range 3 {
		r := rand.New(rand.NewSource(14))
		m := someContent(r, 100)
		c, p := chestWith(t, m), newPlainChest(m)
		for range 300 {
			someCall(t, r, c, p)
		}
		texts[chestText(c)] = true
	}
	if len(texts) != 1 {
		t.Errorf("%d different chests", len(texts))
	}
}

// TestRefused: B6 and P6: calls that return an error change nothing.
func TestRefused(t *testing.T) {
	full := chestWith(t, numbered(api.MaxEntries, "full"))
	for range api.MaxViews {
		viewed(t, full)
	}
	few := chestWith(t, numbered(3, "few"))
	checkErrno(t, "Put", few.Put("a", "not committed"), api.OK)
	viewed(t, few)
	for _, c := range []*Chest{full, few, chestWith(t, nil), opened(t, NewDisk())} {
		text := chestText(c)
		for _, key := range []string{"", "123456789", strings.Repeat("x", 100000)} {
			for _, value := range []string{"", "x", strings.Repeat("x", api.MaxValue+1)} {
				checkErrno(t, "Put", c.Put(key, value), api.ErrArg)
			}
			checkErrno(t, "Delete", c.Delete(key), api.ErrArg)
			checkGet(t, c, now, key, "", api.ErrArg)
			checkGet(t, c, 99, key, "", api.ErrArg)
		}
		checkErrno(t, "Put", c.Put("key00001", strings.Repeat("x", api.MaxValue+1)), api.ErrArg)
		checkErrno(t, "Put", c.Put("new", strings.Repeat("x", 100000)), api.ErrArg)
		checkErrno(t, "Delete", c.Delete("new"), api.ErrNone)
		checkGet(t, c, now, "new", "", api.ErrNone)
		checkErrno(t, "Drop", c.Drop(api.MaxViews), api.ErrArg)
		if c == full {
			checkErrno(t, "Put", c.Put("new", "x"), api.ErrFull)
			view, e := c.View()
			checkErrno(t, fmt.Sprint("View ", view), e, api.ErrFull)
		}
		if chestText(c) != text {
			t.Error("a refused call changes a chest")
		}
	}
}
