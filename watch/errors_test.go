package watch

import (
	"fmt"
	"math"
	"math/rand"
	"slices"
	"testing"

	"pommel/api"
)

// arguments are those of all functions.
type arguments struct {
	s     api.Story
	a, b  api.Pair
	cut   []int
	rank  int
	set   [][]int
	flags [][]bool
}

// found are the results of all functions.
type found struct {
	clocks                                 [][][]int
	before, consistent                     bool
	cuts, rank, courses                    int
	at, possibly, first, last, back, forth []int
	course                                 [][]int
	errors                                 [13]api.Errno
}

// Where the errors of some functions are.
const (
	clocksError     = 0
	beforeError     = 1
	consistentError = 2
	cutsError       = 3
	atError         = 4
	rankError       = 5
	coursesError    = 6
	possiblyError   = 7
	definitelyError = 8
	firstError      = 9
	lastError       = 10
	backError       = 11
	forthError      = 12
)

func allFound(x arguments) found {
	var f found
	e := &f.errors
	f.clocks, e[clocksError] = Clocks(x.s)
	f.before, e[beforeError] = Before(x.s, x.a, x.b)
	f.consistent, e[consistentError] = Consistent(x.s, x.cut)
	f.cuts, e[cutsError] = Cuts(x.s)
	f.at, e[atError] = At(x.s, x.rank)
	f.rank, e[rankError] = Rank(x.s, x.cut)
	f.courses, e[coursesError] = Courses(x.s)
	f.possibly, e[possiblyError] = Possibly(x.s, x.set)
	f.course, e[definitelyError] = Definitely(x.s, x.set)
	f.first, e[firstError] = First(x.s, x.flags)
	f.last, e[lastError] = Last(x.s, x.flags)
	f.back, e[backError] = Back(x.s, x.cut)
	f.forth, e[forthError] = Forth(x.s, x.cut)
	return f
}

func one(is bool) int {
	if is {
		return 1
	}
	return 0
}

// checkZero checks that what comes with an error is a zero value (R3).
func (f found) checkZero(t *testing.T) {
	t.Helper()
	rests := [13]int{len(f.clocks), one(f.before), one(f.consistent), f.cuts, len(f.at), f.rank, f.courses, len(f.possibly), len(f.course), len(f.first), len(f.last), len(f.back), len(f.forth)}
	for i, rest := range rests {
		if f.errors[i] != api.OK && rest != 0 {
			t.Errorf("function %d: %v", i, f)
		}
	}
}

// spoil writes over all memory of the results, also beyond the ends of the slices.
func (f found) spoil() {
	for _, list := range slices.Concat(slices.Concat(f.clocks...), f.course, [][]int{f.at, f.possibly, f.first, f.last, f.back, f.forth}) {
		clear(list[:cap(list)])
	}
	for _, clocks := range f.clocks {
		clear(clocks[:cap(clocks)])
	}
	clear(f.clocks[:cap(f.clocks)])
	clear(f.course[:cap(f.course)])
}

// checkErrors checks the errors of some functions; ErrNone is as good as OK, as other tests check it.
func (f found) checkErrors(t *testing.T, what string, want api.Errno, functions ...int) {
	t.Helper()
	f.checkZero(t)
	for _, i := range functions {
		got := f.errors[i]
		if got == api.ErrNone {
			got = api.OK
		}
		if got != want {
			t.Errorf("%s: function %d: %d, want %d", what, i, f.errors[i], want)
		}
	}
}

func TestStoryErrors(t *testing.T) {
	two := []int{1, 1}
	for _, s := range []api.Story{
		{}, {Deeds: []int{}}, {Notes: notesOf(0, 1, 1, 1)}, // no hands
		{Deeds: make([]int, api.MaxHands+1)}, {Deeds: make([]int, 100000)}, {Deeds: []int{1, 1, 1, 1, 1}, Notes: notesOf(0, 1, 1, 1)},
		{Deeds: []int{-1}}, {Deeds: []int{api.MaxDeeds + 1}}, {Deeds: []int{1, -1}}, {Deeds: []int{-1, 1}}, {Deeds: []int{0, 0, 0, api.MaxDeeds + 1}},
		{Deeds: []int{math.MaxInt}}, {Deeds: []int{math.MinInt}}, {Deeds: []int{1 << 32, 1}}, {Deeds: []int{256}},
		{Deeds: two, Notes: slices.Repeat(notesOf(0, 1, 1, 1), api.MaxNotes+1)}, {Deeds: two, Notes: slices.Repeat(notesOf(0, 1, 1, 1), 100000)},
		{Deeds: two, Notes: make([]api.Note, api.MaxNotes+1)},
		{Deeds: two, Notes: notesOf(-1, 1, 1, 1)}, {Deeds: two, Notes: notesOf(2, 1, 1, 1)}, {Deeds: two, Notes: notesOf(0, 1, -1, 1)}, {Deeds: two, Notes: notesOf(0, 1, 2, 1)}, // no such hand
		{Deeds: two, Notes: notesOf(0, 0, 1, 1)}, {Deeds: two, Notes: notesOf(0, 2, 1, 1)}, {Deeds: two, Notes: notesOf(0, 1, 1, 0)}, {Deeds: two, Notes: notesOf(0, 1, 1, 2)}, // no such deed
		{Deeds: two, Notes: notesOf(0, -1, 1, 1)}, {Deeds: two, Notes: notesOf(0, 1, 1, -1)}, {Deeds: []int{0, 1}, Notes: notesOf(0, 1, 1, 1)}, {Deeds: []int{2, 0}, Notes: notesOf(0, 1, 1, 1)},
		{Deeds: []int{2, 1}, Notes: notesOf(1, 2, 0, 1)}, {Deeds: []int{1, 2}, Notes: notesOf(1, 1, 0, 2)},
		{Deeds: two, Notes: notesOf(math.MaxInt, 1, 1, 1)}, {Deeds: two, Notes: notesOf(math.MinInt, 1, 1, 1)}, {Deeds: two, Notes: notesOf(0, math.MaxInt, 1, 1)}, {Deeds: two, Notes: notesOf(0, 1, 1, math.MinInt)},
		{Deeds: two, Notes: notesOf(0, 1, math.MaxInt, 1)}, {Deeds: two, Notes: notesOf(0, 1, 1, math.MaxInt)}, {Deeds: []int{api.MaxDeeds, api.MaxDeeds}, Notes: notesOf(0, 1, 1, api.MaxDeeds+1)},
		{Deeds: []int{2}, Notes: notesOf(0, 1, 0, 2)}, {Deeds: []int{2, 2}, Notes: notesOf(1, 1, 1, 2)}, {Deeds: two, Notes: notesOf(1, 1, 1, 1)}, {Deeds: []int{2, 2}, Notes: notesOf(0, 2, 0, 1)}, // to itself
		{Deeds: two, Notes: notesOf(0, 1, 1, 1, 1, 1, 0, 1)}, {Deeds: []int{2, 2}, Notes: notesOf(0, 2, 1, 1, 1, 2, 0, 1)}, {Deeds: []int{2, 1}, Notes: notesOf(0, 2, 1, 1, 1, 1, 0, 1)}, // a deed before itself
		{Deeds: []int{2, 2}, Notes: notesOf(0, 2, 1, 1, 1, 1, 0, 2)}, {Deeds: []int{2, 2, 6}, Notes: notesOf(0, 2, 1, 2, 1, 2, 0, 2)},
		{Deeds: []int{1, 1, 1}, Notes: notesOf(0, 1, 1, 1, 1, 1, 2, 1, 2, 1, 0, 1)}, {Deeds: []int{2, 2, 2}, Notes: notesOf(0, 2, 1, 1, 1, 2, 2, 1, 2, 2, 0, 1)},
		{Deeds: []int{1, 1, 1, 1}, Notes: notesOf(0, 1, 1, 1, 1, 1, 2, 1, 2, 1, 3, 1, 3, 1, 0, 1)}, {Deeds: []int{1, 1, 1, 1}, Notes: notesOf(1, 1, 2, 1, 2, 1, 3, 1, 3, 1, 1, 1)},
		{Deeds: []int{6, 6, 6, 6}, Notes: notesOf(0, 6, 1, 1, 1, 6, 2, 1, 2, 6, 3, 1, 3, 6, 0, 6)},              // only the last deed of the first hand, and all of the others
		{Deeds: two, Notes: append(slices.Repeat(notesOf(0, 1, 1, 1), api.MaxNotes-1), notesOf(1, 1, 1, 1)...)}, // the last one
	} {
		checkAllArg(t, s)
	}
}

func TestGreatestStories(t *testing.T) {
	for hands := 1; hands <= api.MaxHands; hands++ {
		for deeds := range api.MaxDeeds + 1 {
			s := api.Story{Deeds: slices.Repeat([]int{deeds}, hands)}
			notes := []int{0}
			if hands > 1 && deeds > 0 {
				notes = []int{0, 1, api.MaxNotes}
			}
			for _, n := range notes {
				s.Notes = slices.Repeat(notesOf(0, deeds, hands-1, 1), n)
				x := allFound(arguments{s: s, cut: make([]int, hands), flags: sameFlags(s, true)})
				want := [13]api.Errno{beforeError: api.ErrForm, possiblyError: api.ErrNone}
				if x.errors != want {
					t.Errorf("%v: errors %v, want %v", s, x.errors, want)
				}
			}
		}
	}
}

func TestPairErrors(t *testing.T) {
	s := api.Story{Deeds: []int{2, 0, 1, api.MaxDeeds}}
	good := []api.Pair{{A: 0, B: 1}, {A: 0, B: 2}, {A: 2, B: 1}, {A: 3, B: 1}, {A: 3, B: api.MaxDeeds}}
	bad := []api.Pair{
		{}, {A: 0, B: 3}, {A: 0, B: -1}, {A: 1, B: 0}, {A: 1, B: 1}, {A: 2, B: 2}, {A: 3, B: api.MaxDeeds + 1}, {A: -1, B: 1}, {A: 4, B: 1}, {A: 5, B: 0},
		{A: math.MaxInt, B: 1}, {A: math.MinInt, B: 1}, {A: 0, B: math.MaxInt}, {A: 0, B: math.MinInt}, {A: 1 << 32, B: 1}, {A: 0, B: 1<<32 + 1},
	}
	all := slices.Concat(good, bad)
	for i, a := range all {
		for j, b := range all {
			want := api.OK
			if i >= len(good) || j >= len(good) {
				want = api.ErrForm
			}
			allFound(arguments{s: s, a: a, b: b}).checkErrors(t, fmt.Sprint(a, b), want, beforeError)
		}
	}
	for _, hands := range []int{1, 2, 3} { // hands that a longer story would have
		if before, e := Before(api.Story{Deeds: slices.Repeat([]int{1}, hands)}, api.Pair{A: 0, B: 1}, api.Pair{A: hands, B: 1}); before || e != api.ErrForm {
			t.Errorf("Before a deed of the hand %d = %t, %d", hands, before, e)
		}
	}
}

func TestCutErrors(t *testing.T) {
	for _, c := range []struct {
		deeds, cut []int
		want       api.Errno
	}{
		{[]int{0}, []int{0}, api.OK},
		{[]int{0}, nil, api.ErrForm},
		{[]int{0}, []int{}, api.ErrForm},
		{[]int{0}, []int{0, 0}, api.ErrForm},
		{[]int{0}, []int{1}, api.ErrForm},
		{[]int{0}, []int{-1}, api.ErrForm},
		{[]int{2, 1}, []int{2, 1}, api.OK},
		{[]int{2, 1}, []int{0, 0}, api.OK},
		{[]int{2, 1}, []int{1}, api.ErrForm},
		{[]int{2, 1}, []int{1, 1, 0}, api.ErrForm},
		{[]int{2, 1}, []int{3, 1}, api.ErrForm},
		{[]int{2, 1}, []int{2, 2}, api.ErrForm},
		{[]int{2, 1}, []int{1, 2}, api.ErrForm},
		{[]int{2, 1}, []int{-1, 1}, api.ErrForm},
		{[]int{2, 1}, []int{1, -1}, api.ErrForm},
		{[]int{2, 1}, []int{math.MaxInt, 0}, api.ErrForm},
		{[]int{2, 1}, []int{0, math.MinInt}, api.ErrForm},
		{[]int{2, 1}, []int{1 << 32, 0}, api.ErrForm},
		{[]int{6, 6, 6, 6}, []int{6, 6, 6, 6}, api.OK},
		{[]int{6, 6, 6, 6}, []int{6, 6, 6, 7}, api.ErrForm},
		{[]int{6, 6, 6, 6}, []int{6, 6, 6}, api.ErrForm},
		{[]int{6, 6, 6, 6}, []int{6, 6, 6, 6, 0}, api.ErrForm},
		{[]int{6, 6, 6, 6}, make([]int, 100000), api.ErrForm},
		{[]int{0, 0, 0, 1}, []int{0, 0, 0, 1}, api.OK},
		{[]int{0, 0, 0, 1}, []int{0, 0, 1, 0}, api.ErrForm},
	} {
		s := api.Story{Deeds: c.deeds}
		what := fmt.Sprint(c.deeds, len(c.cut), c.cut[:min(len(c.cut), 9)])
		allFound(arguments{s: s, cut: c.cut}).checkErrors(t, what, c.want, consistentError, rankError, backError, forthError)
		for _, set := range [][][]int{{c.cut}, {c.deeds, c.cut}, {c.cut, c.deeds}, append(slices.Repeat([][]int{c.deeds}, maxSet-1), c.cut)} {
			allFound(arguments{s: s, set: set}).checkErrors(t, what, c.want, possiblyError, definitelyError)
		}
		long := append(slices.Repeat([][]int{c.deeds}, maxSet), c.cut)
		allFound(arguments{s: s, set: long}).checkErrors(t, what, api.ErrLong, possiblyError, definitelyError) // R2
	}
	note := api.Story{Deeds: []int{1, 1}, Notes: notesOf(0, 1, 1, 1)}
	if _, e := Rank(note, []int{0, 2}); e != api.ErrForm {
		t.Errorf("Rank: %d", e)
	}
	if rank, e := Rank(note, []int{0, 1}); e != api.ErrNone || rank != 0 {
		t.Errorf("Rank = %d, %d", rank, e)
	}
}

func TestSetErrors(t *testing.T) {
	s := api.Story{Deeds: []int{1, 1}}
	for _, c := range []struct {
		set                  [][]int
		possibly, definitely api.Errno
	}{
		{nil, api.ErrNone, api.OK},
		{[][]int{}, api.ErrNone, api.OK},
		{slices.Repeat([][]int{{1, 0}}, maxSet), api.OK, api.OK},
		{slices.Repeat([][]int{{0, 0}}, maxSet), api.OK, api.ErrNone},
		{slices.Repeat([][]int{{1, 0}}, maxSet+1), api.ErrLong, api.ErrLong},
		{slices.Repeat([][]int{{0, 0}}, maxSet+1), api.ErrLong, api.ErrLong},
		{make([][]int, maxSet), api.ErrForm, api.ErrForm},
		{make([][]int, maxSet+1), api.ErrLong, api.ErrLong},
		{make([][]int, 100000), api.ErrLong, api.ErrLong},
		{[][]int{nil}, api.ErrForm, api.ErrForm},
		{[][]int{{0, 0}, {0, 2}}, api.ErrForm, api.ErrForm}, // before what the first cut says
	} {
		f := allFound(arguments{s: s, set: c.set})
		f.checkZero(t)
		if f.errors[possiblyError] != c.possibly || f.errors[definitelyError] != c.definitely {
			t.Errorf("%d cuts: %d, want %d, %d", len(c.set), f.errors, c.possibly, c.definitely)
		}
	}
	if maxSet != 2500 {
		t.Errorf("sets of %d cuts", maxSet)
	}
}

func TestFlagErrors(t *testing.T) {
	for _, c := range []struct {
		deeds []int
		flags [][]bool
		want  api.Errno
	}{
		{[]int{0}, flagsOf("y"), api.OK},
		{[]int{0}, flagsOf("n"), api.OK},
		{[]int{0}, nil, api.ErrForm},
		{[]int{0}, [][]bool{}, api.ErrForm},
		{[]int{0}, flagsOf(""), api.ErrForm},
		{[]int{0}, [][]bool{nil}, api.ErrForm},
		{[]int{0}, flagsOf("yy"), api.ErrForm},
		{[]int{0}, flagsOf("y", "y"), api.ErrForm},
		{[]int{2, 1}, flagsOf("yyy", "yy"), api.OK},
		{[]int{2, 1}, flagsOf("yyy"), api.ErrForm},
		{[]int{2, 1}, flagsOf("yyy", "yy", "y"), api.ErrForm},
		{[]int{2, 1}, flagsOf("yy", "yy"), api.ErrForm},
		{[]int{2, 1}, flagsOf("yyy", "y"), api.ErrForm},
		{[]int{2, 1}, flagsOf("yyyy", "yy"), api.ErrForm},
		{[]int{2, 1}, flagsOf("yyy", "yyy"), api.ErrForm},
		{[]int{2, 1}, flagsOf("yy", "yyy"), api.ErrForm},
		{[]int{2, 1}, flagsOf("nnn", "y"), api.ErrForm}, // before ErrNone
		{[]int{6, 6, 6, 6}, flagsOf("yyyyyyy", "yyyyyyy", "yyyyyyy", "yyyyyyy"), api.OK},
		{[]int{6, 6, 6, 6}, flagsOf("yyyyyyy", "yyyyyyy", "yyyyyyy", "yyyyyyyy"), api.ErrForm},
		{[]int{6, 6, 6, 6}, flagsOf("yyyyyyy", "yyyyyyy", "yyyyyyy", "yyyyyy"), api.ErrForm},
		{[]int{6, 6, 6, 6}, flagsOf("yyyyyyy", "yyyyyyy", "yyyyyyy", "yyyyyyy", "y"), api.ErrForm},
		{[]int{1}, [][]bool{make([]bool, 100000)}, api.ErrForm},
		{[]int{1}, make([][]bool, 100000), api.ErrForm},
	} {
		s := api.Story{Deeds: c.deeds}
		allFound(arguments{s: s, flags: c.flags}).checkErrors(t, fmt.Sprint(c.deeds, len(c.flags)), c.want, firstError, lastError)
	}
}

// roomy returns a copy that lies in a longer array, with other values behind its end.
func roomy[T any](list []T, others ...T) []T {
	return slices.Concat(list, others)[:len(list)]
}

func allRoomy[T any](lists [][]T, others ...T) [][]T {
	var all [][]T
	for _, list := range lists {
		all = append(all, roomy(list, others...))
	}
	return roomy(all, others)
}

// allRoomy returns arguments of the same values that lie in longer arrays.
func (x arguments) allRoomy() arguments {
	x.s.Deeds, x.s.Notes = roomy(x.s.Deeds, 1, 2), roomy(x.s.Notes, notesOf(1, 1, 0, 1)...)
	x.cut, x.set, x.flags = roomy(x.cut, 1, 0), allRoomy(x.set, 1), allRoomy(x.flags, true)
	return x
}

// spoil writes over all arguments.
func (x arguments) spoil() {
	clear(x.s.Deeds)
	clear(x.s.Notes)
	clear(x.cut)
	for _, c := range x.set {
		clear(c)
	}
	for _, says := range x.flags {
		clear(says)
	}
	clear(x.set)
	clear(x.flags)
}

// text shows arguments, also what lies behind the ends of their lists.
func (x arguments) text() string {
	text := fmt.Sprint(x.s.Deeds[:cap(x.s.Deeds)], x.s.Notes[:cap(x.s.Notes)], x.cut[:cap(x.cut)], x.set[:cap(x.set)], x.flags[:cap(x.flags)])
	for _, c := range x.set {
		text += fmt.Sprint(c[:cap(c)])
	}
	for _, says := range x.flags {
		text += fmt.Sprint(says[:cap(says)])
	}
	return text
}

// someArguments returns arguments of which each may be valid or not.
func someArguments(r *rand.Rand) arguments {
	s := someStory(r, someDeeds(r, 3), 6)
	cuts := allCuts(s)
	x := arguments{s: s, cut: slices.Clone(cuts[r.Intn(len(cuts))]), rank: r.Intn(40) - 2, set: someSet(r, cuts, 4), flags: someFlags(r, s, 4)}
	x.a, x.b = api.Pair{A: r.Intn(len(s.Deeds)), B: r.Intn(4)}, api.Pair{A: r.Intn(len(s.Deeds)), B: 1 + r.Intn(4)}
	switch r.Intn(9) {
	case 0:
		x.s.Deeds[0] = r.Intn(9) - 1
	case 1:
		x.s.Notes = append(x.s.Notes, api.Note{From: r.Intn(5), Sent: r.Intn(4), To: r.Intn(5), Received: r.Intn(4)})
	case 2:
		x.cut[0] = r.Intn(9) - 1
	case 3:
		x.set = append(x.set, make([]int, r.Intn(5)))
	case 4:
		x.flags[0] = make([]bool, r.Intn(5))
	}
	return x
}

// TestArguments: R1, R3, R4, R5, R6 and P6, for arguments of which many are not valid.
func TestArguments(t *testing.T) {
	r := rand.New(rand.NewSource(5))
	for range 1000 {
		plain := someArguments(r)
		x := plain.allRoomy()
		kept := x.text()
		f := allFound(x)
		f.checkZero(t)
		old := fmt.Sprint(f)
		f.spoil()
		allFound(someArguments(r))
		if now := x.text(); now != kept {
			t.Fatalf("arguments are changed from %s to %s", kept, now)
		}
		again := allFound(plain)
		plain.spoil()
		if fmt.Sprint(again) != old {
			t.Fatalf("%s: results share memory or differ", kept)
		}
	}
}

// TestOwnMemory: no two lists of a result share memory (R5), also not beyond their ends.
func TestOwnMemory(t *testing.T) {
	for _, s := range someStories() {
		clocks, _ := Clocks(s)
		course, _ := Definitely(s, nil)
		for _, lists := range [][][]int{slices.Concat(clocks...), course} {
			kept := fmt.Sprint(lists)
			for _, list := range lists {
				_ = append(list, -5)
				before := slices.Clone(list)
				clear(list[:cap(list)])
				copy(list, before)
			}
			if now := fmt.Sprint(lists); now != kept {
				t.Errorf("%v: %s, then %s", s, kept, now)
			}
		}
		for hand := range clocks {
			_ = append(clocks[hand], []int{-5})
		}
		if again, _ := Clocks(s); fmt.Sprint(again) != fmt.Sprint(clocks) {
			t.Errorf("%v: clocks share memory", s)
		}
	}
}

// TestEmptyLists: nil and empty lists are the same (R4).
func TestEmptyLists(t *testing.T) {
	for _, deeds := range [][]int{nil, {0}, {2, 1}} {
		none := arguments{s: api.Story{Deeds: deeds}}
		empty := arguments{s: api.Story{Deeds: append([]int{}, deeds...), Notes: []api.Note{}}, cut: []int{}, set: [][]int{}, flags: [][]bool{}}
		if a, b := fmt.Sprint(allFound(none)), fmt.Sprint(allFound(empty)); a != b {
			t.Errorf("%v: %s, but with empty lists %s", deeds, a, b)
		}
	}
}
