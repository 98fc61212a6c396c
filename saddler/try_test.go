package saddler

import (
	"math/rand"
	"strings"
	"testing"

	"pommel/api"
)

// tries are lines that reply, that are refused, and that change each part of the state.
func tries(m model) []string {
	list := m.lines()
	for _, x := range samples() {
		list = append(list, x.line)
	}
	for _, what := range []string{"market", "squares", "distances", "jobs", "chances", "brand", "code", "story"} {
		list = append(list, "drops "+what)
	}
	for _, q := range m.questions() {
		list = append(list, q.line)
	}
	return append(list, "letters 1", "lay 3 3", "put a 1", "put b -", "delete a", "commit", "abort", "get -1 a", "get 0 a", "scan -1", "scan 0", "view", "drop 0", "arm 1", "arm 0", "restart 0", "restart 200", "open",
		"x", "firm", "firm 01", "owe 99 0 1", "delete nokey", "lay 3 9", "seam  a", " firm 1", "firm 1 ", "#", "# firm 1", "#try")
}

// TestTry: L3: the reply is that of the line, and no later reply changes.
func TestTry(t *testing.T) {
	for _, m := range sampleModels(t, 4) {
		s := done(t, append(m.lines(), "put a 1", "commit", "put a 2", "put c 3")...)
		check(t, s, "view", reply("view 0"))
		before := s.Clone()
		for _, line := range tries(m) {
			want := s.Clone().Line(line)
			check(t, s, "try "+line, want)
			check(t, s, "try "+line+"\nfirm 1", want)
			checkSame(t, "try "+line, s, before)
		}
		checkModel(t, s, m)
		check(t, s, "scan -1", reply("entry a 2", "entry c 3"))
	}
}

// TestTryReplies: what each line that is tried replies, said without another workshop.
func TestTryReplies(t *testing.T) {
	checkReplies(t, [][]string{
		{"try firm 1"}, {"clear", "! 1"}, {"firm 1"}, {"try owe 0 0 5"}, {"try clear", "clear 0", "least 0", "keeps 1"}, {"clear", "clear 0", "least 0", "keeps 1"},
		{"try drops market"}, {"clear", "clear 0", "least 0", "keeps 1"},
		{"try lay 2 1 1", "laid 2"}, {"cut", "! 2"}, {"square 0 0 1"}, {"try square 1 0 1"}, {"cut", "cut 1 1", "code 1", "nodes 2", "wire 0 1", "yes"},
		{"letters 2"}, {"commute 0 1"}, {"try letters 2"}, {"try letters 1"}, {"try commute 0 5"}, {"seam ba", "steps ab", "least ab", "ways 2"},
		{"try unlike 0"}, {"below", "! 1"}, {"unlike 0"}, {"try unlike 1"}, {"below", "row 0"},
		{"job 3 1"}, {"job 1 1"}, {"try job 1 9"}, {"try before 0 1"}, {"best", "best 1 0", "cost 5", "set 1", "set 0"},
		{"chance 2 1/2 1/2"}, {"try chance 1 1"}, {"value", "value 3", "follow 3"},
		{"state good 1"}, {"state bad 0"}, {"try state bad 1"}, {"try drops brand"}, {"accepts aa", "yes"},
		{"mark 0"}, {"try mark 0"}, {"code", "clear"}, {"hand 1"}, {"try hand 1"}, {"try note 0 1 1 1"}, {"cuts", "cuts 2", "courses 1"},
		{"put a 1"}, {"try put a 2"}, {"get -1 a", "value 1"}, {"try delete a"}, {"get -1 a", "value 1"}, {"try commit"}, {"view", "view 0"}, {"scan 0"}, {"try abort"}, {"get -1 a", "value 1"},
		{"commit"}, {"try view", "view 1"}, {"try view", "view 1"}, {"view", "view 1"}, {"get 1 a", "value 1"}, {"try drop 1"}, {"get 1 a", "value 1"}, {"try get 1 b", "! 5"}, {"try scan 1", "entry a 1"},
		{"try arm 1"}, {"try commit"}, {"commit"}, {"arm 1"}, {"try commit", "! 8"}, {"try commit", "! 8"}, {"try arm 0"}, {"put b 2"}, {"commit", "! 8"},
		{"try restart 0"}, {"try open", "! 8"}, {"get -1 a", "value 1"}, {"put c 3", "! 6"}, {"restart 0"}, {"try open"}, {"put c 3", "! 6"}, {"open"}, {"get -1 a", "value 1"},
		{"try restart 0"}, {"put c 3"}, {"try open"}, {"commit"}, {"get -1 c", "value 3"},
	})
}

// TestTryRefused: what may not be tried: no blank, an empty line, and try itself.
func TestTryRefused(t *testing.T) {
	s := done(t, "firm 1")
	for _, line := range []string{"try", "try ", "try try", "try try ", "try try firm 1", "try try try", "try try x", "try try #", "tryfirm 1", "try\tfirm 1", "Try firm 1", "try  ", "try  firm 1", "try   ", "try firm 1 ", "try try\tfirm", " try firm 1"} {
		checkRefused(t, s, line, api.ErrForm)
	}
	check(t, s, "try\nfirm 1", refused(api.ErrForm))
	check(t, s, "try \nfirm 1", refused(api.ErrForm))
	check(t, s, "try tryfirm 1", refused(api.ErrForm))
	// A comment has no reply, also if it is tried; nor is try in it the first word.
	for _, line := range []string{"try #", "try # x", "try #try firm 1", "try # try", "#try firm 1", "# try try"} {
		check(t, s, line, "")
	}
	check(t, s, "clear", reply("clear 0", "least 0", "keeps 1"))
}

// TestTryLong: a line that is too long only with try before it.
func TestTryLong(t *testing.T) {
	s := New()
	for _, first := range []string{"#", "put a "} {
		longest := first + strings.Repeat("x", api.MaxLine-len("try ")-len(first))
		check(t, s, "try "+longest, s.Clone().Line(longest))
		for n := 1; n <= len("try "); n++ {
			longer := longest + strings.Repeat("x", n)
			if got := s.Clone().Line(longer); got == refused(api.ErrLong) {
				t.Errorf("%d bytes: %q", len(longer), got)
			}
			checkRefused(t, s, "try "+longer, api.ErrLong)
		}
	}
}

// TestTryAnywhere: L3: any lines with tried ones among them, on one workshop with them and on one without.
func TestTryAnywhere(t *testing.T) {
	r := rand.New(rand.NewSource(12))
	m := sampleModels(t, 3)[2]
	lines := tries(m)
	for range 8 {
		s, other := New(), New()
		for range 400 {
			tried, line := lines[r.Intn(len(lines))], lines[r.Intn(len(lines))]
			check(t, s, "try "+tried, other.Clone().Line(tried))
			check(t, s, line, other.Line(line))
		}
	}
}
