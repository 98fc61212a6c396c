package chest

import (
	"cmp"
	"fmt"
	"maps"
	"math/rand"
	"runtime/debug"
	"slices"
	"strings"
	"testing"

	"pommel/api"
)

// TestMain lets more garbage lie than usual: the tests clone thousands of disks.
func TestMain(m *testing.M) {
	debug.SetGCPercent(1000)
	m.Run()
}

// content is the keys and values of a chest.
type content map[string]string

// scan returns the entries by the chapter's definition.
func (m content) scan(from, to string) []api.Entry {
	var list []api.Entry
	for key, value := range m {
		if key >= from && (to == "" || key < to) {
			list = append(list, api.Entry{Key: key, Value: value})
		}
	}
	slices.SortFunc(list, func(a, b api.Entry) int { return cmp.Compare(a.Key, b.Key) })
	return list
}

// holds reports whether a chest has just these entries, in a view or now.
func (m content) holds(c *Chest, view int) bool {
	list, e := c.Scan(view, "", "")
	return e == api.OK && slices.Equal(list, m.scan("", ""))
}

// contentOf returns what a chest has in a view or now.
func contentOf(t *testing.T, c *Chest, view int) content {
	t.Helper()
	list, e := c.Scan(view, "", "")
	if e != api.OK {
		t.Fatalf("Scan(%d): %d", view, e)
	}
	m := content{}
	for _, entry := range list {
		m[entry.Key] = entry.Value
	}
	return m
}

// checkContent checks what a chest has in a view or now.
func checkContent(t *testing.T, what string, c *Chest, view int, want content) {
	t.Helper()
	if !want.holds(c, view) {
		list, e := c.Scan(view, "", "")
		t.Fatalf("%s: the view %d has %v, %d, want %v", what, view, list, e, want.scan("", ""))
	}
}

// checkErrno checks an error.
func checkErrno(t *testing.T, what string, got, want api.Errno) {
	t.Helper()
	if got != want {
		t.Fatalf("%s: %d, want %d", what, got, want)
	}
}

// opened returns the chest of a disk.
func opened(t *testing.T, d *Disk) *Chest {
	t.Helper()
	c, e := Open(d)
	if e != api.OK || c == nil {
		t.Fatalf("Open: %v, %d", c, e)
	}
	return c
}

// viewed returns the number of a new view.
func viewed(t *testing.T, c *Chest) int {
	t.Helper()
	view, e := c.View()
	checkErrno(t, "View", e, api.OK)
	return view
}

// become changes a chest so that it has these entries, without a commit.
func become(t *testing.T, c *Chest, want content) {
	t.Helper()
	for _, e := range contentOf(t, c, now).scan("", "") {
		if _, ok := want[e.Key]; !ok {
			checkErrno(t, "Delete "+e.Key, c.Delete(e.Key), api.OK)
		}
	}
	for _, e := range want.scan("", "") {
		checkErrno(t, "Put "+e.Key, c.Put(e.Key, e.Value), api.OK)
	}
}

// chestWith returns a chest of a new disk with these entries, committed.
func chestWith(t *testing.T, want content) *Chest {
	t.Helper()
	c := opened(t, NewDisk())
	become(t, c, want)
	checkErrno(t, "Commit", c.Commit(), api.OK)
	return c
}

// numbered returns n entries whose keys are the longest ones, with values that begin with a text.
func numbered(n int, text string) content {
	m := content{}
	for i := range n {
		value := text + strings.Repeat("-", api.MaxValue)
		m[fmt.Sprintf("key%05d", i)] = value[:api.MaxValue]
	}
	return m
}

// someString returns a string of up to most bytes, of few different ones or of any.
func someString(r *rand.Rand, least, most int) string {
	b := make([]byte, least+r.Intn(most-least+1))
	few := r.Intn(2) == 0
	for i := range b {
		if few {
			b[i] = "\x00a\xff"[r.Intn(3)]
		} else {
			b[i] = byte(r.Intn(256))
		}
	}
	return string(b)
}

// someContent returns n entries.
func someContent(r *rand.Rand, n int) content {
	m := content{}
	for len(m) < n {
		m[someString(r, 1, api.MaxKey)] = someString(r, 0, api.MaxValue)
	}
	return m
}

// someKey returns a key of a content, or another one.
func someKey(r *rand.Rand, m content) string {
	if len(m) == 0 || r.Intn(4) == 0 {
		return someString(r, 1, api.MaxKey)
	}
	keys := slices.Sorted(maps.Keys(m))
	return keys[r.Intn(len(keys))]
}

// someChange returns a content after a few changes.
func someChange(r *rand.Rand, m content, changes int) content {
	m = maps.Clone(m)
	for range changes {
		key := someKey(r, m)
		if _, there := m[key]; there && r.Intn(2) == 0 {
			delete(m, key)
		} else if there || len(m) < api.MaxEntries {
			m[key] = someString(r, 0, api.MaxValue)
		}
	}
	return m
}

const mostActs = 100

// actsUntilDown returns how many acts a disk does before one takes it down: mostActs, if none of these does.
func actsUntilDown(d *Disk) int {
	d = d.Clone()
	n := 0
	for n < mostActs && d.Sync() == api.OK {
		n++
	}
	return n
}

// diskText shows all that can be found out about a disk.
func diskText(d *Disk) string {
	var b strings.Builder
	fmt.Fprint(&b, "down ", d.Down(), " acts ", actsUntilDown(d))
	beneath := d.Clone()
	beneath.Restart(0)
	for page := range api.MaxPages {
		fmt.Fprintf(&b, " %q %q", d.Read(page), beneath.Read(page))
	}
	return b.String()
}

// chestText shows all that can be found out about a chest and its disk.
func chestText(c *Chest) string {
	var b strings.Builder
	fmt.Fprint(&b, "broken ", c.Broken())
	for view := -2; view < 20; view++ {
		list, e := c.Scan(view, "", "")
		fmt.Fprintf(&b, " view %d %q %d", view, list, e)
	}
	clone := c.Clone()
	for range api.MaxViews + 1 {
		view, e := clone.View()
		list, f := clone.Scan(view, "", "")
		fmt.Fprintf(&b, " new view %d %d %q %d", view, e, list, f)
	}
	clone.Disk().Arm(0)
	fmt.Fprint(&b, " commit ", clone.Commit(), " disk ")
	return b.String() + diskText(c.Disk())
}

// used returns the pages of the current tree of a disk, and the root page.
func used(t *testing.T, d *Disk) []int {
	t.Helper()
	current, e := read(d)
	checkErrno(t, "read", e, api.OK)
	free := current.free()
	var list []int
	for page := range api.MaxPages {
		if !slices.Contains(free, page) {
			list = append(list, page)
		}
	}
	return list
}
