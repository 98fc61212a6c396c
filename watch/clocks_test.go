package watch

import (
	"fmt"
	"slices"
	"testing"

	"pommel/api"
)

func TestExamples(t *testing.T) {
	s := api.Story{Deeds: []int{1, 1}, Notes: notesOf(0, 1, 1, 1)}
	clocks, e := Clocks(s)
	if fmt.Sprint(clocks) != "[[[1 0]] [[1 1]]]" || e != api.OK {
		t.Errorf("Clocks = %v, %d", clocks, e)
	}
	if n, e := Cuts(s); n != 3 || e != api.OK { // also the document's example 9
		t.Errorf("Cuts = %d, %d", n, e)
	}
	for rank, want := range [][]int{{0, 0}, {1, 0}, {1, 1}} {
		got, e := At(s, rank)
		checkIs(t, fmt.Sprint("At ", rank), got, e, want)
	}
	if n, e := Courses(s); n != 1 || e != api.OK {
		t.Errorf("Courses = %d, %d", n, e)
	}
	back, e := Back(s, []int{0, 1})
	checkIs(t, "Back", back, e, []int{0, 0})
	forth, e := Forth(s, []int{0, 1})
	checkIs(t, "Forth", forth, e, []int{1, 1})
	course, e := Definitely(api.Story{Deeds: []int{1, 1}}, [][]int{{1, 0}})
	if fmt.Sprint(course) != "[[0 0] [0 1] [1 1]]" || e != api.OK {
		t.Errorf("Definitely = %v, %d", course, e)
	}
}

func TestClocks(t *testing.T) {
	for _, c := range []struct {
		deeds []int
		notes []api.Note
		want  string
	}{
		{[]int{0}, nil, "[[]]"},
		{[]int{2}, nil, "[[[1] [2]]]"},
		{[]int{0, 0, 0, 0}, nil, "[[] [] [] []]"},
		{[]int{1, 0, 2}, nil, "[[[1 0 0]] [] [[0 0 1] [0 0 2]]]"},
		{[]int{2, 2}, notesOf(0, 1, 1, 2), "[[[1 0] [2 0]] [[0 1] [1 2]]]"},
		{[]int{2, 2}, notesOf(0, 2, 1, 1), "[[[1 0] [2 0]] [[2 1] [2 2]]]"},
		{[]int{2, 2}, notesOf(0, 1, 1, 1, 1, 1, 0, 2), "[[[1 0] [2 1]] [[1 1] [1 2]]]"},
		{[]int{2, 2}, notesOf(1, 1, 0, 2, 0, 1, 1, 1), "[[[1 0] [2 1]] [[1 1] [1 2]]]"}, // messages are in any order
		{[]int{2, 3}, notesOf(0, 2, 1, 2, 0, 1, 1, 3), "[[[1 0] [2 0]] [[0 1] [2 2] [2 3]]]"},
		{[]int{1, 1, 1}, notesOf(0, 1, 1, 1, 1, 1, 2, 1), "[[[1 0 0]] [[1 1 0]] [[1 1 1]]]"}, // over another deed
		{[]int{1, 1, 2}, notesOf(0, 1, 2, 2, 1, 1, 2, 2), "[[[1 0 0]] [[0 1 0]] [[0 0 1] [1 1 2]]]"},
		{[]int{1, 1, 1, 1}, notesOf(3, 1, 0, 1, 3, 1, 1, 1, 3, 1, 2, 1), "[[[1 0 0 1]] [[0 1 0 1]] [[0 0 1 1]] [[0 0 0 1]]]"},
	} {
		s := api.Story{Deeds: c.deeds, Notes: c.notes}
		if clocks, e := Clocks(s); fmt.Sprint(clocks) != c.want || e != api.OK {
			t.Errorf("Clocks(%v) = %v, %d, want %s", s, clocks, e, c.want)
		}
	}
}

// clocksOf counts the deeds that come before each deed.
func clocksOf(s api.Story) [][][]int {
	o, deeds := orderOf(s), deedsOf(s)
	clocks := make([][][]int, len(s.Deeds))
	for _, b := range deeds {
		clock := make([]int, len(s.Deeds))
		for _, a := range deeds {
			if a == b || o.before(a, b) {
				clock[a.A]++
			}
		}
		clocks[b.A] = append(clocks[b.A], clock)
	}
	return clocks
}

// checkDeeds checks Clocks and Before of a story, and W1.
func checkDeeds(t *testing.T, s api.Story) {
	t.Helper()
	clocks, e := Clocks(s)
	if e != api.OK || !slices.EqualFunc(clocks, clocksOf(s), equalLists) {
		t.Errorf("Clocks(%v) = %v, %d, want %v", s, clocks, e, clocksOf(s))
		return
	}
	o := orderOf(s)
	for _, a := range deedsOf(s) {
		for _, b := range deedsOf(s) {
			before, e := Before(s, a, b)
			if e != api.OK || before != o.before(a, b) {
				t.Errorf("Before(%v, %v, %v) = %t, %d", s, a, b, before, e)
			}
			if x, y := clocks[a.A][a.B-1], clocks[b.A][b.B-1]; before != (isWithin(x, y) && !slices.Equal(x, y)) {
				t.Errorf("%v: %v before %v: %t, but the clocks are %v and %v", s, a, b, before, x, y)
			}
		}
	}
}

// TestDeeds: also W1 and P1.
func TestDeeds(t *testing.T) {
	for _, s := range someStories() {
		checkDeeds(t, s)
	}
}

// checkAllArg checks that each function answers ErrArg, whatever the other arguments are.
func checkAllArg(t *testing.T, s api.Story) {
	t.Helper()
	long := make([][]int, maxSet+1)
	for _, x := range []arguments{
		{},
		{a: api.Pair{A: 0, B: 1}, b: api.Pair{A: 1, B: 1}, cut: make([]int, len(s.Deeds)), flags: make([][]bool, len(s.Deeds))},
		{a: api.Pair{A: -1}, cut: []int{-1}, rank: -1, set: [][]int{{-1}}, flags: [][]bool{{}}},
		{rank: 5000, set: long},
	} {
		x.s = s
		f := allFound(x)
		f.checkZero(t)
		for i, e := range f.errors {
			if e != api.ErrArg {
				t.Errorf("%v, %v: function %d: %d", s, x, i, e)
			}
		}
	}
}

// TestSmallStories compares everything for all stories with few deeds and messages; those with deeds that come before themselves are not valid.
func TestSmallStories(t *testing.T) {
	knots := 0
	for _, c := range []struct {
		deeds []int
		notes int
	}{
		{[]int{1, 1}, 3}, {[]int{2, 2}, 3}, {[]int{3, 2}, 2}, {[]int{1, 1, 1}, 4}, {[]int{2, 1, 1}, 2}, {[]int{0, 2, 1}, 3}, {[]int{1, 1, 1, 1}, 3}, {[]int{1, 0, 0, 2}, 3},
	} {
		for notes := range c.notes + 1 {
			for s := range smallStories(c.deeds, notes) {
				if isKnot(s) {
					knots++
					checkAllArg(t, s)
					continue
				}
				checkDeeds(t, s)
				checkCuts(t, s)
				checkCourses(t, s)
			}
			if t.Failed() {
				return
			}
		}
	}
	if knots < 1000 {
		t.Errorf("only %d stories that are not valid", knots)
	}
}
