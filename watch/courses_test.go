package watch

import (
	"fmt"
	"math/big"
	"math/rand"
	"slices"
	"testing"

	"pommel/api"
)

func TestSets(t *testing.T) {
	free, note := api.Story{Deeds: []int{1, 1}}, api.Story{Deeds: []int{1, 1}, Notes: notesOf(0, 1, 1, 1)}
	idle := api.Story{Deeds: []int{0, 0}}
	for _, c := range []struct {
		s                api.Story
		set              [][]int
		possibly, course string // or - if there is none
	}{
		{free, nil, "-", "[[0 0] [0 1] [1 1]]"},
		{free, [][]int{{1, 0}}, "[1 0]", "[[0 0] [0 1] [1 1]]"},
		{free, [][]int{{0, 1}}, "[0 1]", "[[0 0] [1 0] [1 1]]"},
		{free, [][]int{{1, 0}, {0, 1}}, "[0 1]", "-"},
		{free, [][]int{{1, 0}, {1, 0}, {1, 0}}, "[1 0]", "[[0 0] [0 1] [1 1]]"},
		{free, [][]int{{0, 0}}, "[0 0]", "-"},
		{free, [][]int{{1, 1}}, "[1 1]", "-"},
		{free, [][]int{{1, 1}, {0, 0}}, "[0 0]", "-"},
		{note, nil, "-", "[[0 0] [1 0] [1 1]]"},
		{note, [][]int{{0, 1}}, "-", "[[0 0] [1 0] [1 1]]"}, // not consistent
		{note, [][]int{{1, 0}}, "[1 0]", "-"},
		{note, [][]int{{1, 1}, {0, 1}, {1, 0}, {0, 1}}, "[1 0]", "-"},
		{idle, nil, "-", "[[0 0]]"},
		{idle, [][]int{{0, 0}}, "[0 0]", "-"},
		{api.Story{Deeds: []int{2}}, nil, "-", "[[0] [1] [2]]"},
		{api.Story{Deeds: []int{2}}, [][]int{{1}}, "[1]", "-"},
		{api.Story{Deeds: []int{2, 2}}, [][]int{{0, 1}, {2, 0}}, "[0 1]", "[[0 0] [1 0] [1 1] [1 2] [2 2]]"},
		{api.Story{Deeds: []int{2, 2}}, [][]int{{1, 2}, {2, 0}}, "[1 2]", "[[0 0] [0 1] [1 1] [2 1] [2 2]]"}, // back from [0 2], to which one step more would lead
		{api.Story{Deeds: []int{2, 2}}, [][]int{{1, 1}, {2, 0}, {1, 2}}, "[1 1]", "-"},
	} {
		possibly, e := Possibly(c.s, c.set)
		if got := fmt.Sprint(possibly); (e != api.ErrNone || len(possibly) != 0 || c.possibly != "-") && (e != api.OK || got != c.possibly) {
			t.Errorf("Possibly(%v, %v) = %s, %d, want %s", c.s, c.set, got, e, c.possibly)
		}
		course, f := Definitely(c.s, c.set)
		if got := fmt.Sprint(course); (f != api.ErrNone || len(course) != 0 || c.course != "-") && (f != api.OK || got != c.course) {
			t.Errorf("Definitely(%v, %v) = %s, %d, want %s", c.s, c.set, got, f, c.course)
		}
	}
}

// checkCourses checks Courses of a story, and Definitely without a set, by counting backwards.
func checkCourses(t *testing.T, s api.Story) {
	t.Helper()
	l := latticeOf(s)
	want := l.fromEach(nil)[0]
	if n, e := Courses(s); n != want || e != api.OK {
		t.Errorf("Courses(%v) = %d, %d, want %d", s, n, e, want)
	}
	checkSet(t, s, l, nil)
}

// checkSet checks Possibly and Definitely (P2, P3).
func checkSet(t *testing.T, s api.Story, l lattice, set [][]int) {
	t.Helper()
	var among [][]int
	for _, c := range l.cuts {
		if contains(set, c) {
			among = append(among, c)
		}
	}
	possibly, e := Possibly(s, set)
	if among == nil && (e != api.ErrNone || len(possibly) != 0) || among != nil && (e != api.OK || !slices.Equal(possibly, among[0])) {
		t.Errorf("Possibly(%v, %v) = %v, %d, of %v", s, set, possibly, e, among)
	}
	course, f := Definitely(s, set)
	if want := leastCourse(l, set); want == nil && (f != api.ErrNone || len(course) != 0) || want != nil && (f != api.OK || !equalLists(course, want)) {
		t.Errorf("Definitely(%v, %v) = %v, %d, want %v", s, set, course, f, want)
	}
	if f == api.OK {
		checkCourse(t, s, course, set)
	} else if e != api.OK {
		t.Errorf("W4: %v, %v: Possibly %d, Definitely %d", s, set, e, f)
	}
}

// leastCourse goes from each cut to the least one from which the end can be reached, or returns nil.
func leastCourse(l lattice, set [][]int) [][]int {
	counts := l.fromEach(set)
	if counts[0] == 0 {
		return nil
	}
	course, at := [][]int{l.cuts[0]}, 0
	for at != len(l.cuts)-1 {
		steps := slices.DeleteFunc(slices.Clone(l.steps[at]), func(next int) bool { return counts[next] == 0 })
		at = slices.Min(steps)
		course = append(course, l.cuts[at])
	}
	return course
}

// checkCourse checks that a course is one, and that it has no cut of a set.
func checkCourse(t *testing.T, s api.Story, course, set [][]int) {
	t.Helper()
	if len(course) != sum(s.Deeds)+1 || sum(course[0]) != 0 || !slices.Equal(course[len(course)-1], s.Deeds) {
		t.Errorf("%v: the course %v", s, course)
		return
	}
	if len(goodCuts(s, course)) != len(course) {
		t.Errorf("%v: the course %v has cuts that are not consistent", s, course)
	}
	for i, c := range course {
		if contains(set, c) || i > 0 && !isStep(course[i-1], c) {
			t.Errorf("%v, %v: the course %v", s, set, course)
		}
	}
}

func TestCourses(t *testing.T) {
	for _, c := range []struct {
		deeds []int
		notes []api.Note
		want  int
	}{
		{[]int{0}, nil, 1},
		{[]int{6}, nil, 1},
		{[]int{0, 0, 0, 0}, nil, 1},
		{[]int{0, 3, 0}, nil, 1},
		{[]int{1, 1}, nil, 2},
		{[]int{2, 2}, nil, 6},
		{[]int{1, 1, 1, 1}, nil, 24},
		{[]int{2, 2}, notesOf(0, 1, 1, 1), 3},
		{[]int{2, 2}, notesOf(0, 1, 1, 2), 5},
		{[]int{2, 2}, notesOf(0, 2, 1, 1), 1},
		{[]int{1, 1, 1}, notesOf(0, 1, 1, 1), 3},
		{[]int{1, 1, 1}, notesOf(0, 1, 1, 1, 0, 1, 2, 1), 2},
	} {
		s := api.Story{Deeds: c.deeds, Notes: c.notes}
		if n, e := Courses(s); n != c.want || e != api.OK {
			t.Errorf("Courses(%v) = %d, %d, want %d", s, n, e, c.want)
		}
	}
	for _, s := range someStories() { // also P1 and P2
		checkCourses(t, s)
	}
}

// TestAllCourses compares with all courses, written down and sorted.
func TestAllCourses(t *testing.T) {
	r := rand.New(rand.NewSource(2))
	compared := 0
	for _, s := range someStories() {
		l := latticeOf(s)
		if l.fromEach(nil)[0] > 3000 {
			continue
		}
		compared++
		courses := l.courses()
		slices.SortFunc(courses, compareCourses)
		if n, e := Courses(s); n != len(courses) || e != api.OK {
			t.Errorf("Courses(%v) = %d, %d, want %d", s, n, e, len(courses))
		}
		for range 20 {
			set := someSet(r, allCuts(s), 3+r.Intn(8))
			i := slices.IndexFunc(courses, func(course [][]int) bool {
				return !slices.ContainsFunc(course, func(c []int) bool { return contains(set, c) })
			})
			course, e := Definitely(s, set)
			if i < 0 && (e != api.ErrNone || len(course) != 0) || i >= 0 && (e != api.OK || !equalLists(course, courses[i])) {
				t.Errorf("Definitely(%v, %v) = %v, %d", s, set, course, e)
			}
			checkSet(t, s, l, set)
		}
	}
	if compared < 50 {
		t.Errorf("only %d stories", compared)
	}
}

// TestAllSets: all sets of cuts of small stories.
func TestAllSets(t *testing.T) {
	for _, deeds := range [][]int{{1, 1}, {2, 2}, {1, 1, 1}, {3, 1}} {
		for notes := range 3 {
			for s := range smallStories(deeds, notes) {
				if isKnot(s) {
					continue
				}
				l, cuts := latticeOf(s), allCuts(s)
				for picks := range each(slices.Repeat([]int{1}, len(cuts))) {
					var set [][]int
					for i := len(cuts) - 1; i >= 0; i-- {
						if picks[i] == 1 {
							set = append(set, cuts[i])
						}
					}
					checkSet(t, s, l, set)
				}
			}
		}
	}
}

// TestSomeSets: sets of the greatest stories, of different sizes.
func TestSomeSets(t *testing.T) {
	r := rand.New(rand.NewSource(3))
	none, some := 0, 0
	for _, s := range someStories() {
		l, cuts := latticeOf(s), allCuts(s)
		for _, chance := range []int{3, 6, 9, 20} {
			set := someSet(r, cuts, chance)
			set = slices.DeleteFunc(set, func(c []int) bool { // not always at both ends, and often not below many cuts
				return sum(c) == 0 || slices.Equal(c, s.Deeds) || sum(c)%2 == 0
			})
			checkSet(t, s, l, set)
			if _, e := Definitely(s, set); e == api.OK {
				some++
			} else {
				none++
			}
		}
	}
	if none < 50 || some < 50 {
		t.Errorf("%d sets with a cut of each course, %d others", none, some)
	}
}

// TestWalls: sets that only courses on a long way around avoid, or none.
func TestWalls(t *testing.T) {
	s := api.Story{Deeds: slices.Repeat([]int{api.MaxDeeds}, api.MaxHands)}
	l := latticeOf(s)
	var wall [][]int // all cuts with so many deeds but the greatest one
	for _, c := range l.cuts {
		if sum(c) == 2*api.MaxDeeds && !slices.Equal(c, []int{api.MaxDeeds, api.MaxDeeds, 0, 0}) {
			wall = append(wall, c)
		}
	}
	checkSet(t, s, l, wall)
	if course, e := Definitely(s, wall); e != api.OK || !slices.Equal(course[2*api.MaxDeeds], []int{api.MaxDeeds, api.MaxDeeds, 0, 0}) {
		t.Errorf("Definitely = %v, %d", course, e)
	}
	wall = append(wall, []int{api.MaxDeeds, api.MaxDeeds, 0, 0})
	checkSet(t, s, l, wall)
	if _, e := Definitely(s, wall); e != api.ErrNone {
		t.Errorf("Definitely: %d", e)
	}
}

// TestW4: the set of all cuts, and the one with none.
func TestW4(t *testing.T) {
	for _, s := range someStories() {
		l, cuts := latticeOf(s), allCuts(s)
		for _, all := range [][][]int{cuts, l.cuts} {
			if course, e := Definitely(s, all); e != api.ErrNone || len(course) != 0 {
				t.Errorf("Definitely(%v) of all cuts = %v, %d", s, course, e)
			}
			possibly, e := Possibly(s, all)
			checkIs(t, fmt.Sprint("Possibly of all cuts ", s), possibly, e, make([]int, len(s.Deeds)))
		}
		course, e := Definitely(s, nil)
		if e != api.OK {
			t.Errorf("Definitely(%v) of no cut: %d", s, e)
		}
		checkCourse(t, s, course, nil)
		if possibly, e := Possibly(s, nil); e != api.ErrNone || len(possibly) != 0 {
			t.Errorf("Possibly(%v) of no cut = %v, %d", s, possibly, e)
		}
	}
}

// TestW7: stories backwards.
func TestW7(t *testing.T) {
	for _, s := range someStories() {
		for i, count := range []func(api.Story) (int, api.Errno){Cuts, Courses} {
			n, e := count(s)
			back, f := count(turned(s))
			if n != back || n == 0 || e != api.OK || f != api.OK {
				t.Errorf("function %d of %v = %d, %d, but backwards %d, %d", i, s, n, e, back, f)
			}
		}
	}
}

// TestFreeCourses: without messages deeds of different hands can be done in any order (P1); the greatest number needs more than 32 bits.
func TestFreeCourses(t *testing.T) {
	for deeds := range each(slices.Repeat([]int{api.MaxDeeds}, api.MaxHands)) {
		if sum(deeds)%7 != 3 {
			continue
		}
		want, total := big.NewInt(1), 0
		for _, n := range deeds {
			total += n
			want.Mul(want, new(big.Int).Binomial(int64(total), int64(n)))
		}
		if n, e := Courses(api.Story{Deeds: deeds}); big.NewInt(int64(n)).Cmp(want) != 0 || e != api.OK {
			t.Errorf("Courses(%v) = %d, %d, want %s", deeds, n, e, want)
		}
	}
	if n, e := Courses(api.Story{Deeds: slices.Repeat([]int{api.MaxDeeds}, api.MaxHands)}); n != 2308743493056 || e != api.OK {
		t.Errorf("Courses = %d, %d", n, e)
	}
}
