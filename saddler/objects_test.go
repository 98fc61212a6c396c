package saddler

import (
	"reflect"
	"slices"
	"strings"
	"sync"
	"testing"

	"pommel/api"
)

// TestNoWorkshop: a workshop that is nil, or that neither New nor Clone returned.
func TestNoWorkshop(t *testing.T) {
	copied := *ready(t)
	var none Saddler
	assigned := New()
	*assigned = *ready(t)
	emptied := New()
	*emptied = Saddler{}
	lines := []string{"", "#", "\n", "x", " ", "try", "try ", "try firm 1", "try #", strings.Repeat("x", api.MaxLine+1), "firm 1\nclear"}
	for _, x := range samples() {
		lines = append(lines, x.line, "try "+x.line)
	}
	for i, s := range []*Saddler{nil, {}, new(Saddler), &none, &copied, assigned, emptied} {
		for _, line := range lines {
			if got := s.Line(line); got != refused(api.ErrState) {
				t.Fatalf("workshop %d: %q: %q", i, line, got)
			}
		}
		if c := s.Clone(); c != nil {
			t.Errorf("workshop %d: Clone = %v", i, c)
		}
		check(t, s.Clone(), "clear", refused(api.ErrState))
	}
}

// TestNew: workshops have nothing in common, and nothing at first.
func TestNew(t *testing.T) {
	s := ready(t)
	n := New()
	checkModel(t, n, model{letters: 1})
	check(t, n, "scan -1", "")
	check(t, n, "scan 0", refused(api.ErrArg))
	check(t, n, "view", reply("view 0"))
	checkSilent(t, n, "put b 7", "commit", "arm 1")
	check(t, s, "scan -1", reply("entry a 2"))
	checkSilent(t, s, "commit")
	checkSilent(t, n, "restart 0")
	checkSilent(t, s, "put c 3")
}

// changing are lines that change each part of a workshop that has something of everything.
var changing = []string{
	"owe 0 1 9", "owe 1 0 9", "firm 3", "owe 1 2 4", "drops market", "firm 5", "square 1 0 1", "lay 2 1 1", "drops squares", "square 0 0 5", "commute 0 1", "letters 6", "commute 4 5", "unlike 0 0", "drops distances", "unlike 0",
	"job 7 7", "before 0 1", "drops jobs", "job 2 2", "chance 3 1", "drops chances", "chance 1 0 1", "state bad 0 0", "drops brand", "state good 0", "mark 01", "drops code", "mark 11",
	"hand 2", "note 0 1 1 1", "drops story", "hand 4",
}

// TestClones: R5: what is changed on one side is not changed on the other.
func TestClones(t *testing.T) {
	for _, m := range append(sampleModels(t, 12), model{letters: 1}) {
		build := append(m.lines(), "put a 1", "commit", "put a 2")
		for _, swap := range []bool{false, true} {
			s := done(t, build...)
			check(t, s, "view", reply("view 0"))
			c := s.Clone()
			checkSame(t, "Clone", c, s)
			if swap {
				s, c = c, s
			}
			for _, line := range changing {
				s.Line(line)
				checkModel(t, c, m)
			}
			checkSilent(t, s, "put a 3", "put b 4", "commit", "delete a", "drop 0", "arm 1")
			check(t, s, "commit", refused(api.ErrDown))
			check(t, s, "open", refused(api.ErrDown))
			check(t, c, "scan -1", reply("entry a 2"))
			check(t, c, "scan 0", reply("entry a 1"))
			checkSilent(t, c, "put d 5", "commit", "restart 0", "open")
			check(t, c, "scan -1", reply("entry a 2", "entry d 5"))
			checkNoChest(t, s)
			checkSilent(t, s, "restart 0", "open")
			check(t, s, "scan -1", map[bool]string{true: reply("entry a 3", "entry b 4"), false: reply("entry b 4")}[s.Line("get -1 a") == reply("value 3")])
			checkModel(t, c, m)
		}
	}
}

// TestClonesAdd: what is added on both sides, one after the other, is on the one side what was added there.
func TestClonesAdd(t *testing.T) {
	for _, x := range []struct{ first, left, right string }{
		{"firm 1", "firm 2", "firm 3"}, {"square 0 0 1", "square 1 0 1", "square 0 1 1"}, {"commute 0 1", "commute 0 2", "commute 1 2"}, {"unlike 0 0", "unlike 1", "unlike 2"}, {"job 1 1", "job 2 2", "job 3 3"},
		{"before 0 1", "before 1 2", "before 0 2"}, {"chance 1 1", "chance 1 0 1", "chance 2 1/2 1/2"}, {"state good 0", "state bad 0", "state good 1"}, {"mark 0", "mark 01", "mark 10"},
		{"hand 2", "hand 1", "hand 3"}, {"note 0 1 1 1", "note 0 2 1 2", "note 1 1 0 2"}, {"put a 1", "put b 2", "put b 3"},
	} {
		for n := range 8 {
			s := New()
			for range n {
				s.Line(x.first)
			}
			c := s.Clone()
			left, right := New(), New()
			for range n {
				left.Line(x.first)
				right.Line(x.first)
			}
			check(t, c, x.left, left.Line(x.left))
			check(t, s, x.right, right.Line(x.right))
			checkSame(t, x.left, c, left)
			checkSame(t, x.right, s, right)
			check(t, c, x.right, left.Line(x.right))
			checkSame(t, x.right, s, right)
		}
	}
}

// memory collects where all slices, maps and pointers of a value lead.
func memory(v reflect.Value, found map[uintptr]string, path string) {
	switch v.Kind() {
	case reflect.Pointer:
		if _, ok := found[v.Pointer()]; ok || v.IsNil() {
			return
		}
		found[v.Pointer()] = path
		memory(v.Elem(), found, path)
	case reflect.Struct:
		for i := range v.NumField() {
			memory(v.Field(i), found, path+"."+v.Type().Field(i).Name)
		}
	case reflect.Slice:
		if v.Cap() > 0 {
			found[v.Pointer()] = path
		}
		for i := range v.Len() {
			memory(v.Index(i), found, path)
		}
	case reflect.Map:
		found[v.Pointer()] = path
		for _, key := range v.MapKeys() {
			memory(v.MapIndex(key), found, path)
		}
	}
}

// TestClonesShareNothing: R5, also of memory that no line writes over.
func TestClonesShareNothing(t *testing.T) {
	for _, m := range sampleModels(t, 5) {
		s := done(t, append(m.lines(), "put a 1", "commit", "put a 2")...)
		check(t, s, "view", reply("view 0"))
		own, others := map[uintptr]string{}, map[uintptr]string{}
		memory(reflect.ValueOf(s), own, "s")
		memory(reflect.ValueOf(s.Clone()), others, "s")
		if len(own) < 20 || len(others) < 20 {
			t.Fatalf("%d and %d parts of memory", len(own), len(others))
		}
		for at, path := range own {
			if other, ok := others[at]; ok {
				t.Errorf("%s is %s of the clone", path, other)
			}
		}
	}
}

// TestCloneLater: a clone replies to all lines like its workshop, in all states of the chest.
func TestCloneLater(t *testing.T) {
	lines := slices.Concat(changing, chestLines)
	for _, x := range samples() {
		lines = append(lines, x.line)
	}
	lines = append(lines, "commit", "open", "scan -1", "restart 3", "open", "scan -1", "get -1 a", "view", "put z 1", "commit", "restart 0", "open", "scan -1")
	for _, last := range [][]string{
		{"put x 1"}, {"commit", "put x 1"}, {"restart 0"}, {"restart 9", "open"}, {"put x 1", "arm 1", "commit"}, {"put x 1", "arm 2", "commit", "restart 0"}, {"arm 3"}, {"arm 1", "open"}, {"arm 1", "commit", "open"}, {"arm 1", "commit", "open", "restart 7"},
		{"view", "view", "drop 1"}, {"put x 1", "arm 4"},
	} {
		s := ready(t)
		for _, line := range last {
			s.Line(line)
		}
		c, e := s.Clone(), s.Clone().Clone()
		for _, line := range lines {
			want := s.Line(line)
			check(t, c, line, want)
			check(t, e, line, want)
		}
	}
}

// TestClonesAtOnce: clones share nothing, so that several goroutines can use one each.
func TestClonesAtOnce(t *testing.T) {
	s := ready(t)
	var group sync.WaitGroup
	for range 8 {
		c := s.Clone()
		group.Add(1)
		go func() {
			defer group.Done()
			for _, line := range append(changing, "put q 1", "commit", "restart 0", "open", "clear", "cut", "best", "brand") {
				c.Line(line)
			}
		}()
	}
	group.Wait()
	checkSame(t, "clones", s, ready(t))
}

// TestDrops: each part becomes as it was at first, and only that part.
func TestDrops(t *testing.T) {
	for _, x := range []struct {
		what string
		drop func(m *model)
	}{
		{"market", func(m *model) { m.cash, m.debts = nil, nil }}, {"squares", func(m *model) { m.squares = nil }}, {"distances", func(m *model) { m.distances = nil }},
		{"jobs", func(m *model) { m.jobs, m.order = nil, nil }}, {"chances", func(m *model) { m.chances = nil }}, {"brand", func(m *model) { m.brand = api.Brand{} }},
		{"code", func(m *model) { m.code = nil }}, {"story", func(m *model) { m.story = api.Story{} }},
	} {
		models := sampleModels(t, 12)
		for i, m := range models {
			s := done(t, append(m.lines(), "put a 1")...)
			checkSilent(t, s, "drops "+x.what)
			whole := m
			x.drop(&m)
			checkModel(t, s, m)
			check(t, s, "scan -1", reply("entry a 1"))
			checkSilent(t, s, "drops "+x.what) // there is nothing to drop
			checkModel(t, s, m)
			other := models[(i+1)%len(models)] // the part is filled again
			other.letters, other.commuting = 1, nil
			for _, what := range []string{"market", "squares", "distances", "jobs", "chances", "brand", "code", "story"} {
				checkSilent(t, s, "drops "+what)
			}
			checkModel(t, s, model{letters: whole.letters, commuting: whole.commuting})
			checkSilent(t, s, other.lines()...)
			checkModel(t, s, other)
		}
	}
}

// TestLetters: the pairs are gone with each number of letters, also with the same one.
func TestLetters(t *testing.T) {
	s := New()
	for n := 1; n <= api.MaxLetters; n++ {
		for range 2 {
			checkSilent(t, s, line("letters", n))
			checkModel(t, s, model{letters: n})
			for b := 1; b < n; b++ {
				checkSilent(t, s, line("commute", 0, b))
			}
			m := model{letters: n}
			for b := 1; b < n; b++ {
				m.commuting = append(m.commuting, api.Pair{A: 0, B: b})
			}
			checkModel(t, s, m)
		}
	}
	// A pair of a letter that is not there is kept, as commute names no error for it.
	checkSilent(t, s, "letters 2", "commute 0 2")
	check(t, s, "seam ab", refused(api.ErrArg))
	checkSilent(t, s, "letters 3", "commute 0 2")
	check(t, s, "seam ca", reply("steps ac", "least ac", "ways 2"))
}
