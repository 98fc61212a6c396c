package saddler

import (
	"fmt"
	"strings"
	"testing"

	"pommel/api"
)

// repeated returns a line so many times.
func repeated(line string, n int) []string {
	var list []string
	for range n {
		list = append(list, line)
	}
	return list
}

// TestFull: each list is filled up to its limit; one more is refused, also after a question, until it is dropped.
func TestFull(t *testing.T) {
	for _, x := range []struct {
		line    string
		most    int
		drop    string // which line empties the list
		another string // a list of the same part that is empty
	}{
		{"firm 7", api.MaxFirms, "drops market", ""}, {"square 0 0 1", api.MaxSquares, "drops squares", ""}, {"commute 0 1", 30, "letters 2", ""},
		{"unlike 0 1", api.MaxKin, "drops distances", ""}, {"job 1 2", api.MaxJobs, "drops jobs", "before 0 1"}, {"before 0 1", api.MaxPairs, "drops jobs", "job 1 2"},
		{"chance 1 1", api.MaxChances, "drops chances", ""}, {"state bad 0", api.MaxStates, "drops brand", ""}, {"mark 01", api.MaxMarked, "drops code", ""},
		{"hand 3", api.MaxHands, "drops story", "note 0 1 1 2"}, {"note 0 1 1 2", api.MaxNotes, "drops story", "hand 3"},
	} {
		s := done(t, repeated(x.line, x.most)...)
		for range 2 {
			checkRefused(t, s, x.line, api.ErrFull)
			checkRefused(t, s, x.line, api.ErrFull)
			check(t, s, "try "+x.line, refused(api.ErrFull))
			if x.another != "" {
				checkSilent(t, s, x.another)
			}
			checkSilent(t, s, x.drop)
			checkSilent(t, s, repeated(x.line, x.most)...)
		}
	}
}

// TestFullValues: what was added last, and what was refused then, in what is replied.
func TestFullValues(t *testing.T) {
	s := New()
	m := model{letters: 6}
	for i := range api.MaxFirms + 1 {
		if got := s.Line(line("firm", i)); i < api.MaxFirms {
			m.cash, m.debts = append(m.cash, i), append(m.debts, make([]int, api.MaxFirms))
		} else if got != refused(api.ErrFull) {
			t.Errorf("firm: %q", got)
		}
	}
	for i := range api.MaxMarked + 1 {
		word := fmt.Sprintf("%06b", i)
		if got := s.Line(line("mark", word)); i < api.MaxMarked {
			m.code = append(m.code, word)
		} else if got != refused(api.ErrFull) {
			t.Errorf("mark: %q", got)
		}
	}
	checkSilent(t, s, "letters 6")
	for i := range 31 {
		pair := api.Pair{A: i / 5 % 6, B: (i/5 + 1 + i%5) % 6}
		if got := s.Line(line("commute", pair.A, pair.B)); i < 30 {
			m.commuting = append(m.commuting, pair)
		} else if got != refused(api.ErrFull) {
			t.Errorf("commute: %q", got)
		}
	}
	for i := range api.MaxJobs + 1 {
		if got := s.Line(line("job", 1+i, 50-i)); i < api.MaxJobs {
			m.jobs = append(m.jobs, api.Job{Length: 1 + i, Weight: 50 - i})
		} else if got != refused(api.ErrFull) {
			t.Errorf("job: %q", got)
		}
	}
	for i := range api.MaxPairs + 1 {
		a, b := i%7, 7+i%3
		if got := s.Line(line("before", a, b)); i < api.MaxPairs {
			m.order = append(m.order, api.Pair{A: a, B: b})
		} else if got != refused(api.ErrFull) {
			t.Errorf("before: %q", got)
		}
	}
	for i := range api.MaxHands + 1 {
		if got := s.Line(line("hand", i+1)); i < api.MaxHands {
			m.story.Deeds = append(m.story.Deeds, i+1)
		} else if got != refused(api.ErrFull) {
			t.Errorf("hand: %q", got)
		}
	}
	for i := range api.MaxNotes + 1 {
		n := api.Note{From: i % 3, Sent: 1, To: i%3 + 1, Received: 2}
		if got := s.Line(line("note", n.From, n.Sent, n.To, n.Received)); i < api.MaxNotes {
			m.story.Notes = append(m.story.Notes, n)
		} else if got != refused(api.ErrFull) {
			t.Errorf("note: %q", got)
		}
	}
	checkModel(t, s, m)
}

// TestErrors: the errors that the commands name, and those of the functions that they call; the workshop stays as it is.
func TestErrors(t *testing.T) {
	a, long := strings.Repeat("a", api.MaxStitch+1), strings.Repeat("0", api.MaxText+1)
	for _, x := range []struct {
		lines []string // on a new workshop
		line  string
		e     api.Errno
	}{
		{nil, "owe 0 0 1", api.ErrArg}, {[]string{"firm 1"}, "owe 0 1 1", api.ErrArg}, {[]string{"firm 1"}, "owe 1 0 1", api.ErrArg},
		{[]string{"firm 1"}, "owe -1 0 1", api.ErrArg}, {[]string{"firm 1"}, "owe 0 -1 1", api.ErrArg}, {[]string{"firm 1", "firm 1"}, "owe 2 0 1", api.ErrArg}, {[]string{"firm 1", "firm 1"}, "owe 0 999999999 1", api.ErrArg},
		{nil, "clear", api.ErrArg}, {[]string{"firm -1"}, "clear", api.ErrArg}, {[]string{"firm 1001"}, "clear", api.ErrArg},
		{[]string{"firm 1", "owe 0 0 1"}, "clear", api.ErrArg}, {[]string{"firm 1", "firm 1", "owe 0 1 -1"}, "clear", api.ErrArg}, {[]string{"firm 1", "firm 1", "owe 0 1 1001"}, "clear", api.ErrArg},
		{nil, "cancel", api.ErrArg}, {[]string{"firm 1", "owe 0 0 1"}, "cancel", api.ErrArg}, {[]string{"firm 1", "firm 1", "owe 0 1 -1"}, "cancel", api.ErrArg},
		{nil, "settle", api.ErrArg}, {nil, "settle 1", api.ErrArg}, {nil, "settle 1 -2", api.ErrArg}, {nil, "settle 0 0 0 0 0 0 0 0 0 0 0", api.ErrArg}, {nil, "settle 10001 -10001", api.ErrArg},
		{nil, "cut", api.ErrForm}, {[]string{"square 0 0 1", "square 0 0 1"}, "cut", api.ErrForm}, {[]string{"square 0 0 1001"}, "cut", api.ErrArg}, {[]string{"square -1 0 1"}, "cut", api.ErrArg}, {[]string{"square 0 0 0"}, "cut", api.ErrArg},
		{nil, "compound", api.ErrForm}, {[]string{"square 1 0 1"}, "compound", api.ErrForm}, {[]string{"square 0 0 -1"}, "compound", api.ErrArg},
		{[]string{"square 0 0 1"}, "lay 3", api.ErrArg}, {[]string{"square 0 0 1"}, "lay 0 1", api.ErrArg}, {[]string{"square 0 0 1"}, "lay 1001 1", api.ErrArg}, {[]string{"square 0 0 1"}, "lay 3 0", api.ErrArg},
		{[]string{"square 0 0 1"}, "lay 3 2", api.ErrNone}, {[]string{"square 0 0 1"}, "lay 3 4", api.ErrNone}, {[]string{"square 0 0 1"}, "lay 1" + strings.Repeat(" 1", api.MaxSquares+1), api.ErrLong},
		{nil, "fewest 0 1", api.ErrArg}, {nil, "fewest 1 0", api.ErrArg}, {nil, "fewest 10 1", api.ErrArg}, {nil, "fewest 1 10", api.ErrArg},
		{nil, "letters 0", api.ErrArg}, {nil, "letters -1", api.ErrArg}, {nil, "letters 7", api.ErrArg}, {[]string{"letters 2", "commute 0 1"}, "letters 7", api.ErrArg}, {[]string{"letters 2", "commute 0 1"}, "letters 999999999", api.ErrArg},
		{[]string{"commute 0 1"}, "seam a", api.ErrArg}, {[]string{"letters 2", "commute 1 1"}, "seam a", api.ErrArg}, {[]string{"letters 2", "commute 0 -1"}, "seam X", api.ErrArg},
		{nil, "seam b", api.ErrForm}, {nil, "seam A", api.ErrForm}, {nil, "seam " + a[:api.MaxSpread+1], api.ErrLong}, {nil, "seam " + a, api.ErrLong},
		{nil, "meet " + a + " a", api.ErrLong}, {nil, "meet a b", api.ErrForm}, {[]string{"commute 0 1"}, "meet a a", api.ErrArg},
		{nil, "join a " + a, api.ErrLong}, {nil, "join b a", api.ErrForm}, {[]string{"letters 2"}, "join a b", api.ErrNone}, {[]string{"commute 0 1"}, "join a a", api.ErrArg},
		{nil, "rest " + a + " " + a, api.ErrLong}, {nil, "rest 1 a", api.ErrForm}, {nil, "rest aa a", api.ErrNone}, {[]string{"commute 0 1"}, "rest a a", api.ErrArg},
		{nil, "count -1", api.ErrArg}, {nil, "count 61", api.ErrArg}, {[]string{"commute 0 1"}, "count 1", api.ErrArg},
		{nil, "single 0", api.ErrArg}, {nil, "single 8", api.ErrArg}, {nil, "full 0", api.ErrArg}, {nil, "full 21", api.ErrArg},
		{nil, "holes", api.ErrForm}, {nil, "holes 1", api.ErrForm}, {nil, "holes 0 2 1", api.ErrForm}, {nil, "holes 0 1001", api.ErrForm}, {nil, "holes" + strings.Repeat(" 1", api.MaxMarks+1), api.ErrLong},
		{nil, "round 1 2 1", api.ErrArg}, {nil, "round 7 7 1", api.ErrArg}, {nil, "round 32 3 1", api.ErrArg}, {nil, "round 7 3 0", api.ErrArg}, {nil, "round 8 3 1", api.ErrNone},
		{nil, "tree", api.ErrArg}, {nil, "joined", api.ErrArg}, {nil, "isolated", api.ErrArg}, {nil, "below", api.ErrArg},
		{[]string{"unlike 0 1"}, "tree", api.ErrArg}, {[]string{"unlike 1"}, "joined", api.ErrArg}, {[]string{"unlike 0 1", "unlike 2 0"}, "isolated", api.ErrArg}, {[]string{"unlike"}, "below", api.ErrArg},
		{nil, "best", api.ErrArg}, {[]string{"job 0 1"}, "best", api.ErrArg}, {[]string{"job 1 51"}, "best", api.ErrArg}, {[]string{"job 1 1", "before 0 1"}, "best", api.ErrArg}, {[]string{"job 1 1", "job 1 1", "before 0 1", "before 1 0"}, "best", api.ErrArg},
		{nil, "value", api.ErrArg}, {[]string{"chance 1 1/2"}, "value", api.ErrArg}, {[]string{"chance 51 1"}, "value", api.ErrArg}, {[]string{"chance 1"}, "value", api.ErrArg}, {[]string{"chance 1 99999/100000 1/100000"}, "value", api.ErrArg},
		{nil, "brand", api.ErrArg}, {[]string{"state good 1"}, "brand", api.ErrArg}, {[]string{"state good"}, "brand", api.ErrArg}, {[]string{"state good 0 0 0 0"}, "brand", api.ErrArg}, {[]string{"state good 0 0", "state bad 0"}, "brand", api.ErrArg},
		{nil, "reset", api.ErrArg}, {[]string{"state good 1", "state bad 0"}, "reset", api.ErrNone},
		{nil, "accepts -", api.ErrArg}, {[]string{"state good 0"}, "accepts b", api.ErrForm}, {[]string{"state good 0"}, "accepts " + strings.Repeat("a", api.MaxWord+1), api.ErrLong},
		{nil, "code", api.ErrForm}, {[]string{"mark 0", "mark 0"}, "code", api.ErrForm}, {[]string{"mark 2"}, "code", api.ErrForm}, {[]string{"mark -"}, "code", api.ErrForm},
		{nil, "read 0", api.ErrForm}, {[]string{"mark 0"}, "read 1", api.ErrNone}, {[]string{"mark 0"}, "read a", api.ErrForm}, {[]string{"mark 0"}, "read " + long, api.ErrLong},
		{nil, "huffman", api.ErrArg}, {nil, "huffman 1", api.ErrArg}, {nil, "huffman 1 1001", api.ErrArg}, {nil, "huffman 1 -1", api.ErrArg}, {nil, "huffman" + strings.Repeat(" 1", api.MaxMarked+1), api.ErrLong},
		{nil, "tucker", api.ErrArg}, {nil, "tucker 1", api.ErrArg}, {nil, "tucker 1001 1", api.ErrArg}, {nil, "tucker" + strings.Repeat(" -1", api.MaxMarked+1), api.ErrLong},
		{nil, "cuts", api.ErrArg}, {[]string{"hand 7"}, "cuts", api.ErrArg}, {[]string{"hand 1", "note 0 1 1 1"}, "cuts", api.ErrArg}, {[]string{"hand 2", "hand 2", "note 0 2 1 1", "note 1 2 0 1"}, "cuts", api.ErrArg},
		{nil, "back 0", api.ErrArg}, {[]string{"hand 1"}, "back 2", api.ErrForm}, {[]string{"hand 1"}, "back", api.ErrForm}, {[]string{"hand 1"}, "back 0 0", api.ErrForm}, {[]string{"hand -1"}, "back 0", api.ErrArg},
		{nil, "forth 0", api.ErrArg}, {[]string{"hand 1"}, "forth -1", api.ErrForm}, {[]string{"hand 1"}, "forth", api.ErrForm}, {[]string{"hand 7"}, "forth 0", api.ErrArg},
		{nil, "put 123456789 1", api.ErrArg}, {nil, "put a 12345678901234567", api.ErrArg}, {nil, "put - 1", api.ErrArg}, {nil, "delete a", api.ErrNone}, {nil, "delete 123456789", api.ErrArg},
		{nil, "get -1 a", api.ErrNone}, {nil, "get 0 a", api.ErrArg}, {nil, "get -2 a", api.ErrArg}, {nil, "get -1 123456789", api.ErrArg}, {nil, "scan 0", api.ErrArg}, {nil, "scan -2", api.ErrArg}, {nil, "drop 0", api.ErrArg}, {nil, "drop -1", api.ErrArg},
		{[]string{"restart 0"}, "put a 1", api.ErrState}, {[]string{"restart 0"}, "delete a", api.ErrState}, {[]string{"restart 0"}, "commit", api.ErrState}, {[]string{"restart 0"}, "abort", api.ErrState}, {[]string{"restart 0"}, "view", api.ErrState}, {[]string{"restart 0"}, "drop 0", api.ErrState},
		{[]string{"restart 0"}, "get 0 a", api.ErrArg}, {[]string{"restart 0"}, "scan 0", api.ErrArg}, {[]string{"restart 0"}, "get -1 a", api.ErrNone},
		{nil, "drops threads", api.ErrForm}, {nil, "drops -", api.ErrForm}, {nil, "drops chest", api.ErrForm},
	} {
		s := done(t, x.lines...)
		checkRefused(t, s, x.line, x.e)
		checkRefused(t, s, x.line, x.e)
		check(t, s, "try "+x.line, refused(x.e))
		checkSame(t, x.line, s, done(t, x.lines...))
	}
}

// TestViewsFull: a view more than MaxViews, and the numbers of views.
func TestViewsFull(t *testing.T) {
	s := done(t, "put a 1", "commit")
	for view := range api.MaxViews {
		check(t, s, "view", reply(line("view", view)))
	}
	checkRefused(t, s, "view", api.ErrFull)
	checkSilent(t, s, "drop 1")
	checkRefused(t, s, "drop 1", api.ErrArg)
	checkRefused(t, s, "scan 1", api.ErrArg)
	check(t, s, "view", reply("view 4")) // a refused one takes no number
	checkRefused(t, s, "view", api.ErrFull)
	check(t, s, "scan 4", reply("entry a 1"))
}

// TestRefusedLines: L2: what refused lines leave: the replies of all questions, and of all that is done later.
func TestRefusedLines(t *testing.T) {
	lines := []string{
		"firm x", "owe 9 0 1", "owe 0 9 1", "settle 1", "square 1 1", "lay 3 9", "lay 3 2", "letters 7", "letters 0", "commute 1", "unlike 0 x", "job 1", "before 0 1 2", "chance 1 2/4", "chance x 1", "state ugly 0", "state good x",
		"mark", "mark 0 1", "hand", "hand 1 2", "note 0 1 1", "drops", "drops all", "drops market x", "put a", "put 123456789 1", "put - 1", "delete -", "delete nokey", "get 7 a", "scan 9", "drop 9", "drop x", "view 1", "commit 1", "abort x", "arm", "arm x", "arm 01", "restart", "restart 1/2", "open 1",
		"try", "try ", "try try firm 1", "try firm", " firm 1", "firm  1", "firm 1 ", "clear x", "x", strings.Repeat("x", api.MaxLine+1),
	}
	for _, m := range sampleModels(t, 20) {
		s, other := done(t, m.lines()...), done(t, m.lines()...)
		for _, x := range lines {
			if got := s.Line(x); !strings.HasPrefix(got, "! ") {
				t.Fatalf("%.80q: %q", x, got)
			}
		}
		checkModel(t, s, m)
		checkSame(t, "refused lines", s, other)
		for _, x := range samples() {
			check(t, s, x.line, other.Line(x.line))
		}
		for _, q := range m.questions() {
			check(t, s, q.line, other.Line(q.line))
		}
	}
}
