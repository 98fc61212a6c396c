package saddler

import (
	"fmt"
	"math/rand"
	"slices"
	"strconv"
	"strings"
	"testing"

	"pommel/api"
	"pommel/chest"
)

// keeps are how much of the pages a restart keeps: nothing, a part, all of it.
var keeps = []int{0, 1, 2, 5, 17, 64, 100, 200, api.PageSize - 1, api.PageSize, api.PageSize + 1, api.PageSize + 90, -1, 999999999}

// twin is a workshop, and the chest and the disk that it should have.
type twin struct {
	s *Saddler
	d *chest.Disk
	c *chest.Chest // nil after an Open that returned an error
}

func newTwin(t *testing.T) *twin {
	t.Helper()
	w := &twin{s: New(), d: chest.NewDisk()}
	if w.want("open") != "" {
		t.Fatal("a new disk has no chest")
	}
	return w
}

// want does a line on the chest or the disk, and returns what the workshop should reply to it.
func (w *twin) want(text string) string {
	list := append(strings.Fields(text), "", "")
	n, _ := strconv.Atoi(list[1])
	for i := range list[1:] {
		if list[1+i] == "-" {
			list[1+i] = ""
		}
	}
	var x said
	switch list[0] {
	case "put":
		x.fail(w.c.Put(list[1], list[2]))
	case "delete":
		x.fail(w.c.Delete(list[1]))
	case "commit":
		x.fail(w.c.Commit())
	case "abort":
		x.fail(w.c.Abort())
	case "get":
		value, e := w.c.Get(n, list[2])
		x.add(e, "value", value)
	case "scan":
		entries, e := w.c.Scan(n, "", "")
		x.fail(e)
		for _, entry := range entries {
			x.add(e, "entry", entry.Key, entry.Value)
		}
	case "view":
		view, e := w.c.View()
		x.add(e, "view", view)
	case "drop":
		x.fail(w.c.Drop(n))
	case "arm":
		w.d.Arm(n)
	case "restart":
		w.d.Restart(n)
	case "open":
		c, e := chest.Open(w.d)
		w.c = c
		x.fail(e)
	}
	return x.text()
}

// clone returns an independent twin.
func (w *twin) clone() *twin {
	c := &twin{s: w.s.Clone(), d: w.d.Clone()}
	if w.c != nil {
		c.c = w.c.Clone()
		c.d = c.c.Disk()
	}
	return c
}

// someLine returns a line of the chest or its disk.
func someLine(r *rand.Rand) string {
	key := []string{"a", "b", "c", "-", "12345678", "123456789"}[r.Intn(5)+r.Intn(20)/19]
	switch view := r.Intn(9) - 2; r.Intn(19) {
	case 0, 1, 2:
		return line("put", key, r.Intn(1000))
	case 3:
		return line("put", key, []string{"-", "1234567890123456", "12345678901234567"}[r.Intn(3)])
	case 4:
		return line("delete", key)
	case 5, 6:
		return "commit"
	case 7:
		return "abort"
	case 8:
		return line("get", view, key)
	case 9:
		return line("scan", view)
	case 10, 15, 16, 17:
		return "view"
	case 11:
		return line("drop", view)
	case 12:
		return line("arm", r.Intn(12)-1)
	case 13:
		return line("restart", keeps[r.Intn(len(keeps))])
	case 14:
		return "open"
	default:
		return "scan -1"
	}
}

// TestTwins: L1, L3: lines of the chest reply what the functions return, in any order; what is tried, and what is done on a clone, changes nothing.
func TestTwins(t *testing.T) {
	r := rand.New(rand.NewSource(7))
	seen := map[string]int{}
	for range 150 {
		w := newTwin(t)
		for range 120 {
			text := someLine(r)
			switch r.Intn(10) {
			case 0:
				check(t, w.s, "try "+text, w.clone().want(text))
			case 1:
				c := w.clone()
				check(t, c.s, text, c.want(text))
				if r.Intn(2) == 0 { // it goes on with the clone, and the other one changes no more of it
					w, c = c, w
					check(t, c.s, text, c.want(text))
				}
			default:
				want := w.want(text)
				check(t, w.s, text, want)
				seen[strings.Fields(text)[0]+" "+strings.Fields(want + " done")[0]]++
				if strings.HasPrefix(want, "! ") {
					seen[strings.Fields(text)[0]+" "+strings.TrimSpace(want)]++
				}
			}
			check(t, w.s, "scan -1", w.want("scan -1"))
		}
	}
	for _, want := range []string{
		"put done", "put ! 1", "put ! 6", "delete done", "delete ! 1", "delete ! 5", "delete ! 6", "commit done", "commit ! 6", "commit ! 8", "abort done", "abort ! 6",
		"get value", "get ! 1", "get ! 5", "get ! 6", "scan entry", "scan ! 1", "scan ! 6", "view view", "view ! 6", "view ! 7", "drop done", "drop ! 1", "drop ! 6", "arm done", "restart done", "open done", "open ! 8",
	} {
		if seen[want] == 0 {
			t.Errorf("%q was never replied", want)
		}
	}
}

// chestLines are lines of all commands from put to drop.
var chestLines = []string{"put a 9", "put new 9", "delete a", "commit", "abort", "get -1 a", "get 0 a", "scan -1", "scan 0", "view", "drop 0"}

// checkClosed checks that only get and scan reply, and what they reply.
func checkClosed(t *testing.T, s *Saddler, now, view string) {
	t.Helper()
	for _, x := range chestLines {
		switch {
		case x == "scan -1":
			check(t, s, x, now)
		case x == "scan 0":
			check(t, s, x, view)
		case !strings.HasPrefix(x, "get "):
			checkRefused(t, s, x, api.ErrState)
		}
	}
}

// checkNoChest checks that every command of the chest is refused.
func checkNoChest(t *testing.T, s *Saddler) {
	t.Helper()
	for _, x := range chestLines {
		checkRefused(t, s, x, api.ErrState)
		check(t, s, "try "+x, refused(api.ErrState))
	}
	checkRefused(t, s, "get 5 -", api.ErrState)
	checkRefused(t, s, "put 123456789 1", api.ErrState)
	checkRefused(t, s, "get x a", api.ErrForm)
	checkRefused(t, s, "scan", api.ErrForm)
}

// before, after and first are what the workshop of changed has: before it commits, after it, and in its view.
var (
	before = reply("entry a 1", "entry b 2")
	after  = reply("entry a 3", "entry c -")
	first  = reply("entry a 1")
)

// changed returns a workshop with changes that are not committed.
func changed(t *testing.T) *Saddler {
	t.Helper()
	s := done(t, "put a 1", "commit")
	check(t, s, "view", reply("view 0"))
	checkSilent(t, s, "put b 2", "commit", "put a 3", "delete b", "put c -")
	return s
}

// TestPowerInCommit: L4: the disk goes down in each act of a commit; whatever is kept, all of it holds or nothing.
func TestPowerInCommit(t *testing.T) {
	both := map[string]bool{}
	for act := 1; ; act++ {
		s := changed(t)
		checkSilent(t, s, line("arm", act))
		got := s.Line("commit")
		if got == "" && act < 2 {
			t.Fatal("commit does no acts")
		}
		if got == "" { // the act is one after those of commit
			break
		}
		if got != refused(api.ErrDown) {
			t.Fatalf("commit: %q", got)
		}
		checkClosed(t, s, after, first) // it is broken
		for _, keep := range keeps {
			r := s.Clone()
			checkSilent(t, r, line("restart", keep))
			checkClosed(t, r, after, first)
			checkSilent(t, r, "open")
			got := r.Line("scan -1")
			if got != before && got != after {
				t.Errorf("act %d, keep %d: %q", act, keep, got)
			}
			both[got] = true
			checkRefused(t, r, "scan 0", api.ErrArg) // it has no views
			checkSilent(t, r, "put d 4", "abort", "restart 0", "open")
			check(t, r, "scan -1", got)
			check(t, r, "view", reply("view 0"))
			checkSilent(t, r, "put d 4", "commit", "restart 0", "open")
			check(t, r, "scan -1", got+reply("entry d 4"))
		}
		// Opened while the disk is down, there is no chest any more.
		check(t, s, "open", refused(api.ErrDown))
		checkNoChest(t, s)
		checkSilent(t, s, "restart 0")
		checkNoChest(t, s)
		checkSilent(t, s, "open")
		check(t, s, "scan -1", map[bool]string{true: before, false: after}[s.Line("get -1 b") == reply("value 2")])
	}
	if !both[before] || !both[after] {
		t.Error("the power was never cut before the commit held, or never after it")
	}
}

// TestPowerAfterCommit: L4: what was committed is there, whatever is kept.
func TestPowerAfterCommit(t *testing.T) {
	for _, keep := range keeps {
		s := changed(t)
		checkSilent(t, s, "commit", "put lost 1", "delete a", line("restart", keep))
		checkClosed(t, s, reply("entry c -", "entry lost 1"), first)
		checkSilent(t, s, "open")
		check(t, s, "scan -1", after)
	}
}

// TestPowerInOpen: L4: the disk goes down in each act of an open, also of one after another one that failed.
func TestPowerInOpen(t *testing.T) {
	for _, keep := range keeps {
		for act := 1; ; act++ {
			s := changed(t)
			checkSilent(t, s, "commit", "put lost 1", line("restart", keep), line("arm", act))
			got := s.Line("open")
			if got == "" {
				check(t, s, "scan -1", after)
				break
			}
			check(t, s, "try open", refused(api.ErrDown))
			checkNoChest(t, s)
			checkSilent(t, s, line("restart", keep), line("arm", 1))
			check(t, s, "open", refused(api.ErrDown))
			checkSilent(t, s, line("restart", keep))
			checkNoChest(t, s)
			checkSilent(t, s, "open")
			check(t, s, "scan -1", after)
			check(t, s, "view", reply("view 0"))
			if act > 20 {
				t.Fatal("open does more than 20 acts")
			}
		}
	}
}

// TestArm: what is armed replaces what was armed before, and a restart ends it; what does no acts takes no disk down.
func TestArm(t *testing.T) {
	for _, lines := range [][]string{{"arm 1", "arm 0"}, {"arm 1", "arm -5"}, {"arm 1", "arm 999"}, {"arm 1", "restart 0", "open"}, {"arm 1", "put a 1", "arm 0"}} {
		s := done(t, lines...)
		checkSilent(t, s, "put a 1", "commit")
	}
	s := done(t, "put a 1", "arm 1", "put b 2", "delete b", "put c 3", "abort", "put a 1")
	check(t, s, "scan -1", reply("entry a 1"))
	check(t, s, "view", reply("view 0"))
	checkSilent(t, s, "drop 0", "firm 1", "drops market", "try arm 0")
	check(t, s, "commit", refused(api.ErrDown))
}

// TestDurable: L4, P5: many commits, power cuts and openings.
func TestDurable(t *testing.T) {
	r := rand.New(rand.NewSource(8))
	cuts := 0
	for range 60 {
		s := New()
		now := map[string]string{} // with all changes
		holds := []string{""}      // what the chest may have after an open
		scan := func() string { return s.Line("scan -1") }
		for range 60 {
			key := fmt.Sprintf("k%d", r.Intn(30))
			if _, ok := now[key]; ok && r.Intn(2) == 0 {
				delete(now, key)
				checkSilent(t, s, "delete "+key)
			} else {
				now[key] = strconv.Itoa(r.Intn(1000000))
				checkSilent(t, s, line("put", key, now[key]))
			}
			if r.Intn(2) == 0 {
				checkSilent(t, s, line("arm", 1+r.Intn(12)))
			}
			committed := scan()
			switch got := s.Line("commit"); got {
			case "":
				holds = []string{committed}
				continue
			case refused(api.ErrDown):
				holds = append(holds, committed)
				cuts++
			default:
				t.Fatalf("commit: %q", got)
			}
			for opened := false; !opened; {
				checkSilent(t, s, line("restart", keeps[r.Intn(len(keeps))]))
				checkSilent(t, s, line("arm", r.Intn(4)))
				opened = s.Line("open") == ""
			}
			checkSilent(t, s, "arm 0")
			if !slices.Contains(holds, scan()) {
				t.Fatalf("%q, want one of %q", scan(), holds)
			}
			holds = []string{scan()}
			clear(now)
			for _, entry := range strings.Split(strings.TrimSpace(scan()), "\n") {
				if list := strings.Fields(entry); len(list) == 3 {
					now[list[1]] = list[2]
				}
			}
		}
	}
	if cuts < 100 {
		t.Errorf("the power was cut %d times", cuts)
	}
}
