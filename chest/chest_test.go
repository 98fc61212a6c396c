package chest

import (
	"fmt"
	"maps"
	"math"
	"math/rand"
	"slices"
	"strings"
	"testing"

	"pommel/api"
)

func TestExamples(t *testing.T) {
	c := opened(t, NewDisk())
	checkErrno(t, "Put", c.Put("a", "1"), api.OK)
	checkGet(t, c, now, "a", "1", api.OK)
	if view := viewed(t, c); view != 0 {
		t.Errorf("View = %d", view)
	}
	checkGet(t, c, 0, "a", "", api.ErrNone)
	checkErrno(t, "Commit", c.Commit(), api.OK)
	if view := viewed(t, c); view != 1 {
		t.Errorf("View = %d", view)
	}
	checkGet(t, c, 1, "a", "1", api.OK)
	checkErrno(t, "Put", c.Put("b", "2"), api.OK)
	checkErrno(t, "Abort", c.Abort(), api.OK)
	checkGet(t, c, now, "b", "", api.ErrNone)
	checkErrno(t, "Put", c.Put("c", "3"), api.OK)
	c.Disk().Arm(1)
	checkErrno(t, "Commit", c.Commit(), api.ErrDown)
	c.Disk().Restart(100)
	d := opened(t, c.Disk())
	if !(content{"a": "1"}).holds(d, now) && !(content{"a": "1", "c": "3"}).holds(d, now) {
		t.Errorf("after the restart: %v", contentOf(t, d, now))
	}
}

func checkGet(t *testing.T, c *Chest, view int, key, want string, e api.Errno) {
	t.Helper()
	if value, f := c.Get(view, key); value != want || f != e {
		t.Fatalf("Get(%d, %q) = %q, %d, want %q, %d", view, key, value, f, want, e)
	}
}

// plainChest is a chest by the chapter's definition, on a disk that does not go down.
type plainChest struct {
	committed, changed content
	views              map[int]content
	taken              int
	ended              bool // it is broken or closed
}

func newPlainChest(m content) *plainChest {
	return &plainChest{committed: m, changed: m, views: map[int]content{}}
}

func (p *plainChest) put(key, value string) api.Errno {
	_, there := p.changed[key]
	switch {
	case p.ended:
		return api.ErrState
	case len(key) < 1 || len(key) > 8 || len(value) > 16:
		return api.ErrArg
	case !there && len(p.changed) >= 200:
		return api.ErrFull
	}
	p.changed = maps.Clone(p.changed)
	p.changed[key] = value
	return api.OK
}

func (p *plainChest) delete(key string) api.Errno {
	_, there := p.changed[key]
	switch {
	case p.ended:
		return api.ErrState
	case len(key) < 1 || len(key) > 8:
		return api.ErrArg
	case !there:
		return api.ErrNone
	}
	p.changed = maps.Clone(p.changed)
	delete(p.changed, key)
	return api.OK
}

func (p *plainChest) commit() api.Errno {
	if p.ended {
		return api.ErrState
	}
	p.committed = p.changed
	return api.OK
}

func (p *plainChest) abort() api.Errno {
	if p.ended {
		return api.ErrState
	}
	p.changed = p.committed
	return api.OK
}

func (p *plainChest) view() (int, api.Errno) {
	switch {
	case p.ended:
		return 0, api.ErrState
	case len(p.views) >= 4:
		return 0, api.ErrFull
	}
	p.views[p.taken] = p.committed
	p.taken++
	return p.taken - 1, api.OK
}

func (p *plainChest) drop(view int) api.Errno {
	_, there := p.views[view]
	switch {
	case p.ended:
		return api.ErrState
	case !there:
		return api.ErrArg
	}
	delete(p.views, view)
	return api.OK
}

func (p *plainChest) in(view int) (content, bool) {
	if view == -1 {
		return p.changed, true
	}
	m, there := p.views[view]
	return m, there
}

func (p *plainChest) get(view int, key string) (string, api.Errno) {
	m, there := p.in(view)
	value, found := m[key]
	switch {
	case !there || len(key) < 1 || len(key) > 8:
		return "", api.ErrArg
	case !found:
		return "", api.ErrNone
	}
	return value, api.OK
}

func (p *plainChest) scan(view int, from, to string) ([]api.Entry, api.Errno) {
	m, there := p.in(view)
	if !there {
		return nil, api.ErrArg
	}
	return m.scan(from, to), api.OK
}

func (p *plainChest) clone() *plainChest {
	clone := *p
	clone.views = maps.Clone(p.views)
	return &clone
}

// checkSame checks that a chest has the same entries, now and in all views.
func (p *plainChest) checkSame(t *testing.T, what string, c *Chest) {
	t.Helper()
	for view := -2; view <= p.taken; view++ {
		list, e := c.Scan(view, "", "")
		want, f := p.scan(view, "", "")
		if e != f || !slices.Equal(list, want) {
			t.Fatalf("%s: the view %d is %v, %d, want %v, %d", what, view, list, e, want, f)
		}
	}
	if c.Broken() {
		t.Fatalf("%s: broken", what)
	}
}

// someAsk asks a chest and a plain one, and checks that both answer the same.
func someAsk(t *testing.T, r *rand.Rand, c *Chest, p *plainChest) {
	t.Helper()
	view := r.Intn(p.taken+2) - 1
	m, _ := p.in(view)
	key := someKey(r, m)
	value, e := c.Get(view, key)
	want, f := p.get(view, key)
	if value != want || e != f {
		t.Fatalf("Get(%d, %q) = %q, %d, want %q, %d", view, key, value, e, want, f)
	}
	from, to := "", ""
	if r.Intn(4) > 0 {
		from = someKey(r, m) + someString(r, 0, 1)
	}
	if r.Intn(4) > 0 {
		to = someKey(r, m) + someString(r, 0, 1)
	}
	list, e := c.Scan(view, from, to)
	wanted, f := p.scan(view, from, to)
	if !slices.Equal(list, wanted) || e != f {
		t.Fatalf("Scan(%d, %q, %q) = %v, %d, want %v, %d", view, from, to, list, e, wanted, f)
	}
}

// someCall does a call on a chest and on a plain one, and checks that both return the same.
func someCall(t *testing.T, r *rand.Rand, c *Chest, p *plainChest) {
	t.Helper()
	switch r.Intn(16) {
	default:
		key, value := someKey(r, p.changed), someString(r, 0, api.MaxValue)
		checkErrno(t, fmt.Sprintf("Put(%q, %q)", key, value), c.Put(key, value), p.put(key, value))
	case 0, 1, 2, 3:
		key := someKey(r, p.changed)
		checkErrno(t, fmt.Sprintf("Delete(%q)", key), c.Delete(key), p.delete(key))
	case 4:
		key, value := someString(r, 0, api.MaxKey+1), someString(r, 0, api.MaxValue+1)
		checkErrno(t, fmt.Sprintf("Put(%q, %q)", key, value), c.Put(key, value), p.put(key, value))
		checkErrno(t, fmt.Sprintf("Delete(%q)", key), c.Delete(key), p.delete(key))
	case 5, 6:
		checkErrno(t, "Commit", c.Commit(), p.commit())
	case 7:
		checkErrno(t, "Abort", c.Abort(), p.abort())
	case 8:
		view, e := c.View()
		want, f := p.view()
		if view != want || e != f {
			t.Fatalf("View = %d, %d, want %d, %d", view, e, want, f)
		}
	case 9:
		view := r.Intn(p.taken+3) - 2
		checkErrno(t, fmt.Sprintf("Drop(%d)", view), c.Drop(view), p.drop(view))
	}
}

func TestChestByDefinition(t *testing.T) {
	r := rand.New(rand.NewSource(3))
	for round := range 60 {
		d := NewDisk()
		c, p := opened(t, d), newPlainChest(content{})
		if round%3 > 0 {
			m := someContent(r, []int{1, 190, 200}[r.Intn(3)])
			become(t, c, m)
			checkErrno(t, "Commit", c.Commit(), p.commit())
			p = newPlainChest(m)
		}
		for range 150 {
			someCall(t, r, c, p)
			someAsk(t, r, c, p)
			p.checkSame(t, "after a call", c)
			switch r.Intn(60) {
			case 0:
				p.ended = true
				d.Restart(r.Intn(300))
			case 1:
				d.Restart(r.Intn(300))
				fallthrough
			case 2:
				old, oldP := c, p
				c, p = opened(t, d), newPlainChest(p.committed)
				oldP.ended = true
				someCall(t, r, old, oldP)
				oldP.checkSame(t, "a closed chest", old)
			case 3:
				c, p = c.Clone(), p.clone()
				d = c.Disk()
			}
			p.checkSame(t, "after all", c)
		}
	}
}

// TestScan: all beginnings and ends among some keys and others between them.
func TestScan(t *testing.T) {
	keys := []string{"\x00", "\x00\x00", "a", "a\x00", "aa", "ab", "b", "bbbbbbbb", "bbbbbbbc", "\x7f", "\x80", "\xff", "\xff\xff"}
	ends := slices.Concat(keys, []string{"", "A", "a\x01", "aaa", "bbbbbbbb\x00", "bbbbbbbbbbb", "c", "\x81", "\xfe", "\xff\xff\xff", strings.Repeat("\xff", 100), strings.Repeat("a", 1000)})
	for n := range keys {
		m := content{}
		for i, key := range keys[:n+1] {
			m[key] = fmt.Sprint(i)
		}
		c := chestWith(t, m)
		view := viewed(t, c)
		checkErrno(t, "Delete", c.Delete(keys[0]), api.OK)
		changed := maps.Clone(m)
		delete(changed, keys[0])
		for _, from := range ends {
			for _, to := range ends {
				old, e := c.Scan(view, from, to)
				list, f := c.Scan(now, from, to)
				if e != api.OK || f != api.OK || !slices.Equal(old, m.scan(from, to)) || !slices.Equal(list, changed.scan(from, to)) {
					t.Fatalf("Scan from %q to %q: %v, %d, now %v, %d", from, to, old, e, list, f)
				}
			}
		}
	}
	list, e := opened(t, NewDisk()).Scan(now, "", "")
	if len(list) != 0 || e != api.OK {
		t.Errorf("Scan of an empty chest: %v, %d", list, e)
	}
}

// TestGet: each key of chests of all sizes, and the keys around it.
func TestGet(t *testing.T) {
	for _, n := range []int{0, 1, 2, 9, 10, 11, 19, 50, 199, api.MaxEntries} {
		m := numbered(n, "value")
		c := chestWith(t, m)
		for i := range n {
			key := fmt.Sprintf("key%05d", i)
			checkGet(t, c, now, key, m[key], api.OK)
			checkGet(t, c, now, key[:7], "", api.ErrNone)
			checkGet(t, c, now, key[:7]+"a", "", api.ErrNone)
		}
		for _, key := range []string{"a", "z", "\x00", "\xff\xff\xff\xff\xff\xff\xff\xff", fmt.Sprintf("key%05d", n)} {
			checkGet(t, c, now, key, "", api.ErrNone)
		}
		again := opened(t, c.Disk())
		checkContent(t, "opened again", again, now, m)
	}
}

// TestLengths: keys and values of all lengths, kept through an Open.
func TestLengths(t *testing.T) {
	for _, fill := range []string{"\x00", "x", "\xff"} {
		for keyLength := 0; keyLength <= api.MaxKey+1; keyLength++ {
			for valueLength := 0; valueLength <= api.MaxValue+1; valueLength++ {
				c := opened(t, NewDisk())
				key, value := strings.Repeat(fill, keyLength), strings.Repeat(fill, valueLength)
				keyError, putError := api.OK, api.OK
				if keyLength == 0 || keyLength > api.MaxKey {
					keyError = api.ErrArg
				}
				if keyError != api.OK || valueLength > api.MaxValue {
					putError = api.ErrArg
				}
				checkErrno(t, "Put", c.Put(key, value), putError)
				checkErrno(t, "Commit", c.Commit(), api.OK)
				c = opened(t, c.Disk())
				if putError == api.OK {
					checkContent(t, "opened again", c, now, content{key: value})
					checkGet(t, c, now, key, value, api.OK)
					checkErrno(t, "Delete", c.Delete(key), api.OK)
				} else {
					checkContent(t, "opened again", c, now, nil)
				}
				if keyError == api.OK {
					keyError = api.ErrNone
				}
				checkErrno(t, "Delete", c.Delete(key), keyError)
				checkGet(t, c, now, key, "", keyError)
			}
		}
	}
}

// TestFull: exactly MaxEntries entries, counted with all changes.
func TestFull(t *testing.T) {
	m := numbered(api.MaxEntries, "")
	c := opened(t, NewDisk())
	become(t, c, m)
	first := "key00000"
	for _, what := range []string{"before a commit", "after it", "opened again"} {
		checkErrno(t, what, c.Put("other", ""), api.ErrFull)
		checkErrno(t, what, c.Put("", ""), api.ErrArg)
		checkErrno(t, what, c.Put("other", strings.Repeat("x", api.MaxValue+1)), api.ErrArg)
		checkErrno(t, what, c.Put(first, "new"), api.OK)
		checkErrno(t, what, c.Put(first, m[first]), api.OK)
		checkContent(t, what, c, now, m)
		checkErrno(t, what, c.Commit(), api.OK)
		if what != "before a commit" {
			c = opened(t, c.Disk())
		}
	}
	checkErrno(t, "Delete", c.Delete(first), api.OK)
	checkErrno(t, "Put", c.Put("other", "x"), api.OK)
	checkErrno(t, "Put", c.Put(first, "x"), api.ErrFull)
	checkErrno(t, "Abort", c.Abort(), api.OK)
	checkErrno(t, "Put", c.Put("other", "x"), api.ErrFull)
	checkContent(t, "aborted", c, now, m)
}

// TestViews: B4, and the numbers of views.
func TestViews(t *testing.T) {
	c := opened(t, NewDisk())
	want := map[int]content{}
	number := 0
	for i := range 40 {
		m := numbered(i*5%201, fmt.Sprint(i))
		become(t, c, m)
		if _, there := want[number]; !there && len(want) < api.MaxViews {
			want[number] = contentOfCommitted(t, c)
			if view := viewed(t, c); view != number { // what is not committed is not in it
				t.Fatalf("View = %d, want %d", view, number)
			}
			number++
		}
		if i%3 > 0 {
			checkErrno(t, "Commit", c.Commit(), api.OK)
		}
		for view, m := range want {
			checkContent(t, "a view", c, view, m)
		}
		if len(want) == api.MaxViews {
			view, e := c.View()
			if view != 0 || e != api.ErrFull {
				t.Fatalf("View = %d, %d", view, e)
			}
			old := number - 1 - i%api.MaxViews
			if _, there := want[old]; there {
				checkErrno(t, "Drop", c.Drop(old), api.OK)
				delete(want, old)
			}
			checkDropped(t, c, old)
		}
	}
	if number < 15 {
		t.Errorf("only %d views", number)
	}
	c = opened(t, c.Disk())
	for view := range number {
		checkDropped(t, c, view)
	}
	if view := viewed(t, c); view != 0 {
		t.Errorf("the first view of a chest that is opened again is %d", view)
	}
}

// contentOfCommitted returns what an Abort would bring back.
func contentOfCommitted(t *testing.T, c *Chest) content {
	clone := c.Clone()
	checkErrno(t, "Abort", clone.Abort(), api.OK)
	return contentOf(t, clone, now)
}

func checkDropped(t *testing.T, c *Chest, view int) {
	t.Helper()
	checkErrno(t, "Drop", c.Drop(view), api.ErrArg)
	checkGet(t, c, view, "key00000", "", api.ErrArg)
	if list, e := c.Scan(view, "", ""); len(list) != 0 || e != api.ErrArg {
		t.Fatalf("Scan(%d) = %v, %d", view, list, e)
	}
}

// TestViewErrors: exactly MaxViews views, and numbers that no view has.
func TestViewErrors(t *testing.T) {
	c := chestWith(t, content{"a": "1"})
	for view := range api.MaxViews {
		if got := viewed(t, c); got != view {
			t.Fatalf("View = %d, want %d", got, view)
		}
	}
	if view, e := c.View(); view != 0 || e != api.ErrFull {
		t.Errorf("View = %d, %d", view, e)
	}
	for _, view := range []int{-2, api.MaxViews, api.MaxViews + 1, math.MaxInt, math.MinInt, 1 << 32} {
		checkDropped(t, c, view)
	}
	checkErrno(t, "Drop", c.Drop(now), api.ErrArg)
	checkErrno(t, "Drop", c.Drop(1), api.OK)
	checkDropped(t, c, 1)
	if view := viewed(t, c); view != api.MaxViews { // a refused View has no number
		t.Errorf("View = %d", view)
	}
	for _, view := range []int{0, 2, 3, api.MaxViews} {
		checkGet(t, c, view, "a", "1", api.OK)
		checkGet(t, c, view, "b", "", api.ErrNone)
		checkGet(t, c, view, "", "", api.ErrArg)
		checkGet(t, c, view, "123456789", "", api.ErrArg)
	}
	checkGet(t, c, 1, "", "", api.ErrArg)
}

// TestAbort: B5, after a Commit and after an Open.
func TestAbort(t *testing.T) {
	r := rand.New(rand.NewSource(4))
	m := content{}
	c := opened(t, NewDisk())
	for round := range 60 {
		view := viewed(t, c)
		for range 3 {
			become(t, c, someChange(r, m, 1+r.Intn(30)))
			checkErrno(t, "Abort", c.Abort(), api.OK)
			checkContent(t, "after Abort", c, now, m)
			checkContent(t, "after Abort", c, view, m)
			checkErrno(t, "Abort", c.Abort(), api.OK)
			checkContent(t, "after Abort", c, now, m)
		}
		checkErrno(t, "Drop", c.Drop(view), api.OK)
		if round%4 == 0 {
			checkErrno(t, "Commit", c.Commit(), api.OK) // of nothing
			c = opened(t, c.Disk())
			checkContent(t, "opened again", c, now, m)
		} else {
			m = someChange(r, m, r.Intn(40))
			become(t, c, m)
			checkErrno(t, "Commit", c.Commit(), api.OK)
		}
	}
}

// TestOpenAgain: what is not committed is not there.
func TestOpenAgain(t *testing.T) {
	for _, n := range []int{0, 1, 9, 10, 100, api.MaxEntries} {
		m := numbered(n, "old")
		for _, restart := range []bool{false, true} {
			c := chestWith(t, m)
			become(t, c, numbered(50, "new"))
			if restart {
				c.Disk().Restart(7)
			}
			d := opened(t, c.Disk())
			if d == c || d.Disk() != c.Disk() || d.Broken() {
				t.Errorf("the chest %t, its disk %t, broken %t", d == c, d.Disk() == c.Disk(), d.Broken())
			}
			checkContent(t, "opened again", d, now, m)
			checkContent(t, "the closed chest", c, now, numbered(50, "new"))
		}
	}
}

// TestActs: only Open and Commit do acts.
func TestActs(t *testing.T) {
	r := rand.New(rand.NewSource(5))
	m := someContent(r, 150)
	c, p := chestWith(t, m), newPlainChest(m)
	c.Disk().Arm(mostActs - 1)
	text := diskText(c.Disk())
	for range 300 {
		for range 8 {
			someAsk(t, r, c, p)
		}
		key := someKey(r, p.changed)
		checkErrno(t, "Put", c.Put(key, key), p.put(key, key))
		key = someKey(r, p.changed)
		checkErrno(t, "Delete", c.Delete(key), p.delete(key))
		someViews(t, r, c, p)
		c.Broken()
		c.Clone()
	}
	if diskText(c.Disk()) != text {
		t.Error("the disk is another one")
	}
}

// someViews takes or drops a view, or aborts.
func someViews(t *testing.T, r *rand.Rand, c *Chest, p *plainChest) {
	t.Helper()
	switch r.Intn(4) {
	case 0:
		checkErrno(t, "Abort", c.Abort(), p.abort())
	case 1:
		view := r.Intn(p.taken + 1)
		checkErrno(t, "Drop", c.Drop(view), p.drop(view))
	default:
		_, e := c.View()
		_, f := p.view()
		checkErrno(t, "View", e, f)
	}
}
