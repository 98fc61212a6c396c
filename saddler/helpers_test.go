package saddler

import (
	"fmt"
	"reflect"
	"runtime/debug"
	"strings"
	"testing"

	"pommel/api"
)

// TestMain lets more garbage lie than usual: the tests clone thousands of disks.
func TestMain(m *testing.M) {
	debug.SetGCPercent(1000)
	m.Run()
}

// check checks the reply to a line.
func check(t *testing.T, s *Saddler, line, want string) {
	t.Helper()
	if got := s.Line(line); got != want {
		t.Fatalf("%.80q: %q, want %q", line, got, want)
	}
}

// checkSilent checks that lines have no replies.
func checkSilent(t *testing.T, s *Saddler, lines ...string) {
	t.Helper()
	for _, line := range lines {
		check(t, s, line, "")
	}
}

// done returns a new workshop on which lines without replies were done.
func done(t *testing.T, lines ...string) *Saddler {
	t.Helper()
	s := New()
	checkSilent(t, s, lines...)
	return s
}

// reply writes lines, as one reply.
func reply(lines ...string) string {
	if len(lines) == 0 {
		return ""
	}
	return strings.Join(lines, "\n") + "\n"
}

// refused is the reply that is an error.
func refused(e api.Errno) string {
	return fmt.Sprintf("! %d\n", e)
}

// checkRefused checks that a line is refused and leaves the workshop as it is.
func checkRefused(t *testing.T, s *Saddler, line string, e api.Errno) {
	t.Helper()
	before := s.Clone()
	check(t, s, line, refused(e))
	checkSame(t, line, s, before)
}

// checkSame checks that a workshop is in the same state as another one, also where only later lines would show it.
func checkSame(t *testing.T, what string, s, want *Saddler) {
	t.Helper()
	if !reflect.DeepEqual(s, want) {
		t.Fatalf("%.80q: the workshop is not as it should be", what)
	}
}

// line writes words of any kinds, and lists of them, as a line without its newline.
func line(parts ...any) string {
	var words []string
	for _, part := range parts {
		if v := reflect.ValueOf(part); v.Kind() == reflect.Slice {
			for i := range v.Len() {
				words = append(words, word(v.Index(i)))
			}
		} else {
			words = append(words, word(part))
		}
	}
	return strings.Join(words, " ")
}

func word(x any) string {
	if text := fmt.Sprint(x); text != "" {
		return text
	}
	return "-"
}

// said is what a function said: lines, or an error.
type said struct {
	lines []string
	e     api.Errno
}

func (x *said) add(e api.Errno, parts ...any) {
	x.fail(e)
	x.lines = append(x.lines, line(parts...))
}

func (x *said) addRows(e api.Errno, first string, rows [][]int) {
	x.fail(e)
	for _, row := range rows {
		x.lines = append(x.lines, line(first, row))
	}
}

// fail keeps an error, if it is the first one.
func (x *said) fail(e api.Errno) {
	if x.e == api.OK {
		x.e = e
	}
}

// text is the whole reply.
func (x *said) text() string {
	if x.e != api.OK {
		return refused(x.e)
	}
	return reply(x.lines...)
}

func yesNo(yes bool) string {
	if yes {
		return "yes"
	}
	return "no"
}
