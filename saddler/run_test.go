package saddler

import (
	"math/rand"
	"strings"
	"testing"

	"pommel/api"
)

// checkRun checks the result of Run.
func checkRun(t *testing.T, text, want string, e api.Errno) {
	t.Helper()
	if got, f := Run(text); got != want || f != e {
		t.Fatalf("Run(%.80q) = %.200q, %d, want %.200q, %d", text, got, f, want, e)
	}
}

func TestRun(t *testing.T) {
	lines := "firm 1\nfirm 0\nowe 0 1 4\nowe 1 0 2\n\n# now\nclear\nx\nput a 1\ncommit\ndelete a\nabort\nget -1 a"
	want := reply("clear 3 2", "least 3 2", "keeps 0 1", "fails 0", "! 2", "value 1")
	checkRun(t, lines, want, api.OK)
	checkRun(t, lines+"\n", want, api.OK)
	checkRun(t, lines+"\n\n", want, api.OK)
	checkRun(t, lines+"\nsingle 4", want+reply("strap 0 1 4 6"), api.OK)
	checkRun(t, "\n\n"+lines, want, api.OK)
	for _, text := range []string{"", "\n", "\n\n\n", "#", "#\n", "firm 1", "firm 1\n"} {
		checkRun(t, text, "", api.OK)
	}
	for _, text := range []string{"clear", "clear\n", "\nclear", "clear\n\n"} { // each Run has a new workshop
		checkRun(t, text, refused(api.ErrArg), api.OK)
	}
	checkRun(t, "single 4", reply("strap 0 1 4 6"), api.OK)
	checkRun(t, " \n \n ", strings.Repeat(refused(api.ErrForm), 3), api.OK)
	checkRun(t, "#"+strings.Repeat("x", api.MaxLine)+"\nsingle 2", refused(api.ErrLong)+reply("strap 0 1"), api.OK)
	checkRun(t, "put a 1\nrestart 0\nput a 2\nopen\nscan -1\nput a 3\nscan -1", reply("! 6", "entry a 3"), api.OK)
}

// TestRunLong: MaxLines lines, and one more.
func TestRunLong(t *testing.T) {
	for _, line := range []string{"", "#", "single 2", "firm 1", "x", strings.Repeat("x", 2*api.MaxLine)} {
		replies := func(n int) string {
			s, all := New(), ""
			for range n {
				all += s.Line(line)
			}
			return all
		}
		full := strings.Repeat(line+"\n", api.MaxLines-1)
		checkRun(t, full, replies(api.MaxLines-1), api.OK)
		checkRun(t, full+line+"\n", replies(api.MaxLines), api.OK)
		checkRun(t, full+line, replies(api.MaxLines), api.OK)
		checkRun(t, full+line+"\n\n", "", api.ErrLong)
		checkRun(t, full+line+"\n"+line+"\n", "", api.ErrLong)
		checkRun(t, full+line+"\n#", "", api.ErrLong)
		checkRun(t, full+line+"\n"+line+"\n"+line, "", api.ErrLong)
		checkRun(t, full+line+"\n ", "", api.ErrLong)
	}
	checkRun(t, strings.Repeat("\n", 1<<24), "", api.ErrLong)
	checkRun(t, strings.Repeat("\n", api.MaxLines), "", api.OK)
	checkRun(t, strings.Repeat("\n", api.MaxLines+1), "", api.ErrLong)
	checkRun(t, strings.Repeat("x", 1<<20), refused(api.ErrLong), api.OK)
}

// TestRunIsLine: the replies of Run are those of Line, one after the other.
func TestRunIsLine(t *testing.T) {
	r := rand.New(rand.NewSource(13))
	for _, m := range sampleModels(t, 20) {
		lines := m.lines()
		for _, more := range tries(m) {
			if r.Intn(3) > 0 {
				lines = append(lines, more, someLine(r))
			}
		}
		s, want := New(), ""
		for _, line := range lines {
			want += s.Line(line)
		}
		checkRun(t, strings.Join(lines, "\n"), want, api.OK)
		checkRun(t, strings.Join(lines, "\n")+"\n", want, api.OK) // R6: the same again
	}
}
