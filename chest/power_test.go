package chest

import (
	"fmt"
	"maps"
	"math/rand"
	"slices"
	"testing"

	"pommel/api"
)

// allKeeps are all that can be kept of the pages.
func allKeeps() []int {
	return numbers(0, api.PageSize+1)
}

// eachFailure opens clones of a disk and lets them go down in each act of Open in turn.
func eachFailure(t *testing.T, d *Disk, then func(failed *Disk)) {
	t.Helper()
	acts := 0
	for n := 1; ; n++ {
		failed := d.Clone()
		failed.Arm(n)
		c, e := Open(failed)
		if e == api.OK {
			break
		}
		if c != nil || e != api.ErrDown || !failed.Down() {
			t.Fatalf("Open = %t, %d; down %t", c != nil, e, failed.Down())
		}
		if c, e := Open(failed); c != nil || e != api.ErrDown {
			t.Fatalf("Open of a disk that is down = %t, %d", c != nil, e)
		}
		then(failed)
		acts = n
	}
	if acts == 0 {
		t.Fatal("Open does no acts")
	}
}

// found opens a clone of a disk in many ways and checks that all find the same, which it returns. More is how many failed Opens may come before.
func found(t *testing.T, d *Disk, keeps []int, more int) content {
	t.Helper()
	first := d.Clone()
	m := contentOf(t, opened(t, first), now)
	for _, keep := range keeps {
		checkContent(t, "a later Open", opened(t, first), now, m)
		first.Restart(keep)
		checkContent(t, "an Open after Restart", opened(t, first), now, m)
	}
	if more == 0 {
		return m
	}
	eachFailure(t, d, func(failed *Disk) {
		for _, keep := range keeps {
			again := failed.Clone()
			again.Restart(keep)
			if other := found(t, again, keeps[:1], more-1); !maps.Equal(other, m) {
				t.Fatalf("found %v, after an Open that failed %v", m, other)
			}
		}
	})
	return m
}

// checkFailures lets the disk of a chest go down in each act of a Commit in turn, and checks what is found then. It returns how often the old content was found, and how often the new one.
func checkFailures(t *testing.T, c *Chest, old content, keeps []int, more int) (olds, news int) {
	t.Helper()
	changed := contentOf(t, c, now)
	for n := 1; ; n++ {
		failed := c.Clone()
		failed.Disk().Arm(n)
		e := failed.Commit()
		if e == api.OK {
			failed.Disk().Restart(0)
			checkContent(t, "committed", opened(t, failed.Disk()), now, changed)
			return olds, news
		}
		if e != api.ErrDown || !failed.Broken() || !failed.Disk().Down() {
			t.Fatalf("Commit: %d, broken %t, down %t", e, failed.Broken(), failed.Disk().Down())
		}
		checkContent(t, "broken", failed, now, changed)
		for _, keep := range keeps {
			d := failed.Disk().Clone()
			d.Restart(keep)
			m := found(t, d, keeps[:min(3, len(keeps))], more)
			switch {
			case maps.Equal(m, old):
				olds++
			case maps.Equal(m, changed):
				news++
			default:
				t.Fatalf("act %d, keep %d: found %v, neither %v nor %v", n, keep, m, old, changed)
			}
			checkGoesOn(t, d, m)
		}
	}
}

// checkGoesOn checks that the chest of a disk can be changed and committed.
func checkGoesOn(t *testing.T, d *Disk, m content) {
	t.Helper()
	c := opened(t, d)
	m = maps.Clone(m)
	for key := range m {
		m[key] = "later"
	}
	become(t, c, m)
	checkErrno(t, "Commit", c.Commit(), api.OK)
	d.Restart(0)
	checkContent(t, "committed later", opened(t, d), now, m)
}

// TestFirstOpen: the disk goes down while a chest is opened for the first time, also several times.
func TestFirstOpen(t *testing.T) {
	for _, keep := range allKeeps() {
		eachFailure(t, NewDisk(), func(failed *Disk) {
			failed.Restart(keep)
			if m := found(t, failed, []int{256 - keep}, 1); len(m) > 0 {
				t.Fatalf("found %v on a new disk", m)
			}
			if keep < 16 || keep%32 == 0 {
				found(t, failed, []int{3, 0, 256, 1, 12}, 2)
			}
			checkGoesOn(t, failed, content{"a": "1"})
		})
	}
}

// TestCommitFails: B1, B2, B3 and P5, for all keeps.
func TestCommitFails(t *testing.T) {
	for _, c := range []struct {
		name         string
		old, changed content
	}{
		{"the first entry", nil, content{"a": "1"}},
		{"nothing", nil, nil},
		{"one entry, as before", content{"a": "1"}, content{"a": "1"}},
		{"another value", content{"a": "1"}, content{"a": "2"}},
		{"the last entry", content{"a": "1"}, nil},
		{"several leaves", numbered(25, "old"), someChange(rand.New(rand.NewSource(6)), numbered(25, "old"), 9)},
	} {
		t.Run(c.name, func(t *testing.T) {
			chest := chestWith(t, c.old)
			become(t, chest, c.changed)
			olds, news := checkFailures(t, chest, c.old, allKeeps(), 0)
			if !maps.Equal(c.old, c.changed) && (olds == 0 || news == 0) {
				t.Errorf("the old content found %d times, the new one %d times", olds, news)
			}
			checkFailures(t, chest, c.old, []int{0, 1, 130}, 2)
		})
	}
}

// TestFirstCommitFails: the first Commit of a disk, by the chest of its first Open.
func TestFirstCommitFails(t *testing.T) {
	c := opened(t, NewDisk())
	become(t, c, numbered(12, "first"))
	olds, news := checkFailures(t, c, nil, allKeeps(), 0)
	if olds == 0 || news == 0 {
		t.Errorf("nothing found %d times, all %d times", olds, news)
	}
}

// TestManyFail: with many entries and views, which do not matter.
func TestManyFail(t *testing.T) {
	r := rand.New(rand.NewSource(7))
	for round := range 6 {
		old := someContent(r, []int{60, 199, api.MaxEntries}[round%3])
		c := chestWith(t, nil)
		for range api.MaxViews { // trees of which nothing is left now lie on the disk
			become(t, c, someContent(r, 100))
			checkErrno(t, "Commit", c.Commit(), api.OK)
			viewed(t, c)
		}
		become(t, c, old)
		checkErrno(t, "Commit", c.Commit(), api.OK)
		become(t, c, someChange(r, old, 1+round*40))
		checkFailures(t, c, old, []int{0, 1, 100, 256}, 0)
		checkFailures(t, c, old, []int{r.Intn(257)}, 1)
	}
}

// story is a disk, its chest if it is open, and what may be found when it is opened next.
type story struct {
	d     *Disk
	c     *Chest
	may   []content
	news  int
	fails int
}

// open opens the chest, now and then with a disk that goes down.
func (s *story) open(t *testing.T, r *rand.Rand) {
	t.Helper()
	s.d.Arm(r.Intn(6))
	c, e := Open(s.d)
	for e != api.OK {
		checkErrno(t, "Open", e, api.ErrDown)
		s.fails++
		s.d.Restart(r.Intn(600) - 20)
		s.d.Arm(r.Intn(6))
		c, e = Open(s.d)
	}
	m := contentOf(t, c, now)
	if !slices.ContainsFunc(s.may, func(may content) bool { return maps.Equal(may, m) }) {
		t.Fatalf("found %v, but it may be %v", m, s.may)
	}
	if len(s.may) > 1 && !maps.Equal(m, s.may[0]) {
		s.news++
	}
	s.c, s.may = c, []content{m}
}

// commit commits some changes, now and then with a disk that goes down.
func (s *story) commit(t *testing.T, r *rand.Rand) {
	t.Helper()
	s.d.Arm(0)
	if r.Intn(2) == 0 {
		s.d.Arm(1 + r.Intn(12))
	}
	m := someChange(r, s.may[0], 1+r.Intn(20))
	become(t, s.c, m)
	if s.c.Commit() == api.OK {
		s.may = []content{m}
		return
	}
	s.fails++
	s.may = append(s.may, m)
	if s.d.Down() {
		s.d.Restart(r.Intn(600) - 20)
	}
	s.open(t, r)
}

// TestLongStory: B1 and B3 through many failures on one disk.
func TestLongStory(t *testing.T) {
	r := rand.New(rand.NewSource(8))
	for _, n := range []int{0, 40, api.MaxEntries} {
		m := someContent(r, n)
		s := &story{d: chestWith(t, m).Disk(), may: []content{m}}
		s.open(t, r)
		for range 2000 {
			s.commit(t, r)
			if r.Intn(5) == 0 {
				s.open(t, r)
			}
			if r.Intn(5) == 0 {
				s.d.Restart(r.Intn(600) - 20)
				s.open(t, r)
			}
		}
		if s.fails < 50 || s.news < 5 {
			t.Errorf("%d failures, %d times found what a failed Commit left", s.fails, s.news)
		}
	}
}

// TestBroken: what a chest returns whose Commit failed, in each act, and its clones.
func TestBroken(t *testing.T) {
	whole := chestWith(t, numbered(30, "old"))
	view := viewed(t, whole)
	become(t, whole, numbered(20, "new"))
	for n := 1; ; n++ {
		c := whole.Clone()
		c.Disk().Arm(n)
		if c.Commit() == api.OK {
			break
		}
		for _, c := range []*Chest{c, c.Clone()} {
			for range 2 {
				if !c.Broken() || !c.Disk().Down() {
					t.Fatalf("broken %t, down %t", c.Broken(), c.Disk().Down())
				}
				checkEnded(t, c)
				checkContent(t, "broken", c, now, numbered(20, "new"))
				checkContent(t, "broken", c, view, numbered(30, "old"))
			}
			d := c.Disk()
			d.Restart(0)
			checkEnded(t, c)
			opened(t, d)
			checkEnded(t, c)
			if !c.Broken() {
				t.Error("not broken any more")
			}
			checkContent(t, "broken and closed", c, now, numbered(20, "new"))
			checkContent(t, "broken and closed", c, view, numbered(30, "old"))
		}
	}
	if whole.Broken() {
		t.Error("broken with its clone")
	}
	checkErrno(t, "Commit", whole.Commit(), api.OK)
}

// checkEnded checks that a chest that is broken or closed cannot be changed, and is not.
func checkEnded(t *testing.T, c *Chest) {
	t.Helper()
	text := chestText(c)
	for _, key := range []string{"key00000", "other", "", "123456789"} {
		checkErrno(t, "Put", c.Put(key, "x"), api.ErrState)
		checkErrno(t, "Put", c.Put(key, "12345678901234567"), api.ErrState)
		checkErrno(t, "Delete", c.Delete(key), api.ErrState)
	}
	checkErrno(t, "Commit", c.Commit(), api.ErrState)
	checkErrno(t, "Abort", c.Abort(), api.ErrState)
	for view := -2; view < 5; view++ {
		checkErrno(t, "Drop", c.Drop(view), api.ErrState)
	}
	if view, e := c.View(); view != 0 || e != api.ErrState {
		t.Fatalf("View = %d, %d", view, e)
	}
	checkGet(t, c, now, "", "", api.ErrArg)
	checkGet(t, c, 17, "key00000", "", api.ErrArg)
	checkGet(t, c, now, "nothing", "", api.ErrNone)
	if chestText(c) != text {
		t.Fatal("a refused call changes a chest")
	}
}

// TestDownBefore: a Commit on a disk that is down already.
func TestDownBefore(t *testing.T) {
	for _, changes := range []bool{false, true} {
		c := chestWith(t, content{"a": "1"})
		want := content{"a": "1"}
		c.Disk().Arm(1)
		c.Disk().Sync()
		if c.Broken() {
			t.Error("broken by an act that is not its own")
		}
		if changes {
			want = content{"b": "2"}
			become(t, c, want)
		}
		viewed(t, c)
		checkErrno(t, "Commit", c.Commit(), api.ErrDown)
		if !c.Broken() {
			t.Error("not broken")
		}
		checkContent(t, "broken", c, now, want)
		checkEnded(t, c)
		if d, e := Open(c.Disk()); d != nil || e != api.ErrDown {
			t.Errorf("Open of a disk that is down = %t, %d", d != nil, e)
		}
		c.Disk().Restart(0)
		checkContent(t, "opened again", opened(t, c.Disk()), now, content{"a": "1"})
	}
}

// TestClosed: what closes a chest, and what does not.
func TestClosed(t *testing.T) {
	old, changed := numbered(30, "old"), numbered(40, "new")
	for _, x := range []struct {
		name   string
		deed   func(t *testing.T, d *Disk)
		closed bool
	}{
		{"Restart", func(t *testing.T, d *Disk) { d.Restart(0) }, true},
		{"Open", func(t *testing.T, d *Disk) { opened(t, d) }, true},
		{"an Open that takes the disk down", func(t *testing.T, d *Disk) { openDown(t, d) }, true},
		{"Open, changed and committed", func(t *testing.T, d *Disk) { openAndFill(t, d) }, true},
		{"nothing", func(t *testing.T, d *Disk) {}, false},
		{"an Open that returns ErrForm", func(t *testing.T, d *Disk) { openMalformed(t, d) }, false},
		{"Sync", func(t *testing.T, d *Disk) { checkErrno(t, "Sync", d.Sync(), api.OK) }, false},
		{"Clone of the disk", func(t *testing.T, d *Disk) { d.Clone().Restart(0); opened(t, d.Clone()) }, false},
	} {
		t.Run(x.name, func(t *testing.T) {
			c := chestWith(t, old)
			view := viewed(t, c)
			become(t, c, changed)
			x.deed(t, c.Disk())
			for _, c := range []*Chest{c, c.Clone(), c.Clone().Clone()} {
				if c.Broken() {
					t.Error("broken")
				}
				checkContent(t, x.name, c, now, changed)
				checkContent(t, x.name, c, view, old)
				if x.closed {
					checkEnded(t, c)
					continue
				}
				checkErrno(t, "Abort", c.Clone().Abort(), api.OK)
				checkErrno(t, "Commit", c.Clone().Commit(), api.OK)
				checkErrno(t, "Drop", c.Clone().Drop(view), api.OK)
			}
		})
	}
}

// openDown opens a disk, which goes down meanwhile.
func openDown(t *testing.T, d *Disk) {
	t.Helper()
	d.Arm(1)
	if c, e := Open(d); c != nil || e != api.ErrDown {
		t.Fatalf("Open = %t, %d", c != nil, e)
	}
	d.Arm(0)
}

// openAndFill writes over all that is free on a disk.
func openAndFill(t *testing.T, d *Disk) {
	t.Helper()
	c := opened(t, d)
	for i := range 3 {
		become(t, c, numbered(api.MaxEntries, fmt.Sprint(i)))
		checkErrno(t, "Commit", c.Commit(), api.OK)
	}
}

// openMalformed opens a disk while its root page is malformed.
func openMalformed(t *testing.T, d *Disk) {
	t.Helper()
	root := d.Read(rootPage)
	checkErrno(t, "Write", d.Write(rootPage, []byte("malformed")), api.OK)
	if c, e := Open(d); c != nil || e != api.ErrForm {
		t.Fatalf("Open = %t, %d", c != nil, e)
	}
	checkErrno(t, "Write", d.Write(rootPage, root), api.OK)
	checkErrno(t, "Sync", d.Sync(), api.OK)
}

// TestClosedByDown: a disk that is down closes nothing, and neither does an Open of it.
func TestClosedByDown(t *testing.T) {
	c := chestWith(t, content{"a": "1"})
	c.Disk().Arm(1)
	c.Disk().Sync()
	if _, e := Open(c.Disk()); e != api.ErrDown {
		t.Fatalf("Open: %d", e)
	}
	checkErrno(t, "Put", c.Put("b", "2"), api.OK)
	if view, e := c.View(); view != 0 || e != api.OK {
		t.Errorf("View = %d, %d", view, e)
	}
	checkErrno(t, "Drop", c.Drop(0), api.OK)
	checkErrno(t, "Abort", c.Abort(), api.OK)
	checkContent(t, "a disk that is down", c, now, content{"a": "1"})
	c.Disk().Restart(0)
	checkErrno(t, "Put", c.Put("b", "2"), api.ErrState)
}
