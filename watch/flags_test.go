package watch

import (
	"fmt"
	"math/rand"
	"slices"
	"testing"

	"pommel/api"
)

// flagsOf returns flags written as letters: y is yes.
func flagsOf(hands ...string) [][]bool {
	var flags [][]bool
	for _, hand := range hands {
		var says []bool
		for _, letter := range hand {
			says = append(says, letter == 'y')
		}
		flags = append(flags, says)
	}
	return flags
}

func TestFlags(t *testing.T) {
	free, note := api.Story{Deeds: []int{2, 2}}, api.Story{Deeds: []int{2, 2}, Notes: notesOf(0, 1, 1, 2)}
	row := api.Story{Deeds: []int{1, 1, 1}, Notes: notesOf(0, 1, 1, 1, 1, 1, 2, 1)}
	for _, c := range []struct {
		s           api.Story
		flags       [][]bool
		first, last string // or - if there is none
	}{
		{free, flagsOf("yyy", "yyy"), "[0 0]", "[2 2]"},
		{free, flagsOf("nyn", "nny"), "[1 2]", "[1 2]"},
		{free, flagsOf("yny", "nyn"), "[0 1]", "[2 1]"},
		{free, flagsOf("nnn", "yyy"), "-", "-"},
		{free, flagsOf("yyy", "nnn"), "-", "-"},
		{free, flagsOf("nnn", "nnn"), "-", "-"},
		{note, flagsOf("yyy", "nny"), "[1 2]", "[2 2]"},
		{note, flagsOf("ynn", "nny"), "-", "-"},
		{note, flagsOf("ynn", "nyy"), "[0 1]", "[0 1]"},
		{note, flagsOf("yny", "nny"), "[2 2]", "[2 2]"},
		{note, flagsOf("ynn", "yyy"), "[0 0]", "[0 1]"},
		{note, flagsOf("yny", "yny"), "[0 0]", "[2 2]"}, // [0 2] is not consistent
		{row, flagsOf("yy", "yy", "ny"), "[1 1 1]", "[1 1 1]"},
		{row, flagsOf("yn", "yy", "yy"), "[0 0 0]", "[0 0 0]"},
		{row, flagsOf("yy", "yn", "yy"), "[0 0 0]", "[1 0 0]"},
		{row, flagsOf("yn", "yy", "ny"), "-", "-"}, // only over the hand between
		{api.Story{Deeds: []int{0}}, flagsOf("y"), "[0]", "[0]"},
		{api.Story{Deeds: []int{0}}, flagsOf("n"), "-", "-"},
		{api.Story{Deeds: []int{0, 1, 0}}, flagsOf("y", "ny", "y"), "[0 1 0]", "[0 1 0]"},
		{api.Story{Deeds: []int{0, 1, 0}}, flagsOf("y", "ny", "n"), "-", "-"},
		{api.Story{Deeds: []int{6}}, flagsOf("nynynyn"), "[1]", "[5]"},
	} {
		for i, f := range []func(api.Story, [][]bool) ([]int, api.Errno){First, Last} {
			want := []string{c.first, c.last}[i]
			cut, e := f(c.s, c.flags)
			if got := fmt.Sprint(cut); (e != api.ErrNone || len(cut) != 0 || want != "-") && (e != api.OK || got != want) {
				t.Errorf("%v, %v: %s, %d, want %s", c.s, c.flags, got, e, want)
			}
		}
	}
}

// turnedCuts returns cuts as those of the story backwards.
func turnedCuts(s api.Story, cuts [][]int) [][]int {
	var list [][]int
	for _, c := range cuts {
		back := slices.Clone(s.Deeds)
		for hand, deeds := range c {
			back[hand] -= deeds
		}
		list = append(list, back)
	}
	return list
}

// checkFlags checks First and Last by all consistent cuts at which all hands say yes, and by Possibly among all such cuts (W5). It returns how many there are.
func checkFlags(t *testing.T, s api.Story, good [][]int, flags [][]bool) int {
	t.Helper()
	var yes, agree [][]int
	for _, c := range allCuts(s) {
		if areAllYes(flags, c) {
			yes = append(yes, c)
		}
	}
	for _, c := range good {
		if areAllYes(flags, c) {
			agree = append(agree, c)
		}
	}
	first, e := First(s, flags)
	last, f := Last(s, flags)
	possibly, g := Possibly(s, yes)
	if agree == nil {
		if e != api.ErrNone || f != api.ErrNone || g != api.ErrNone || len(first)+len(last) != 0 {
			t.Errorf("%v, %v: first %v, %d, last %v, %d, Possibly %d", s, flags, first, e, last, f, g)
		}
		return 0
	}
	checkIs(t, fmt.Sprint("First ", s, flags), first, e, combined(agree, least))
	checkIs(t, fmt.Sprint("Last ", s, flags), last, f, combined(agree, greatest))
	checkIs(t, fmt.Sprint("Possibly ", s, flags), possibly, g, first)
	if !contains(agree, first) || !contains(agree, last) {
		t.Errorf("%v, %v: first %v, last %v, of %v", s, flags, first, last, agree)
	}
	backwards, e := Possibly(turned(s), turnedCuts(s, yes))
	checkIs(t, fmt.Sprint("Possibly backwards ", s, flags), backwards, e, turnedCuts(s, [][]int{last})[0])
	return len(agree)
}

// TestAllFlags: all flags of small stories.
func TestAllFlags(t *testing.T) {
	for _, deeds := range [][]int{{1, 1}, {2, 2}, {1, 1, 1}, {0, 2, 1}} {
		for notes := range 4 {
			for s := range smallStories(deeds, notes) {
				if isKnot(s) {
					continue
				}
				good := goodCuts(s, allCuts(s))
				for says := range each(slices.Repeat([]int{1}, sum(deeds)+len(deeds))) {
					flags := sameFlags(s, false)
					for _, hand := range flags {
						for i := range hand {
							hand[i], says = says[0] == 1, says[1:]
						}
					}
					checkFlags(t, s, good, flags)
				}
			}
		}
	}
}

// TestW5: flags of all stories, by which hands say yes at no cut, at one and at many.
func TestW5(t *testing.T) {
	r := rand.New(rand.NewSource(4))
	none, one, many := 0, 0, 0
	for _, s := range someStories() {
		good := goodCuts(s, allCuts(s))
		if n := checkFlags(t, s, good, sameFlags(s, true)); n != len(good) {
			t.Errorf("%v: %d cuts of %d", s, n, len(good))
		}
		checkFlags(t, s, good, sameFlags(s, false))
		for _, chance := range []int{2, 2, 2, 3, 3, 5, 10} {
			switch n := checkFlags(t, s, good, someFlags(r, s, chance)); {
			case n == 0:
				none++
			case n == 1:
				one++
			default:
				many++
			}
		}
		only := good[r.Intn(len(good))]
		flags := sameFlags(s, false)
		for hand, deeds := range only {
			flags[hand][deeds] = true
		}
		if n := checkFlags(t, s, good, flags); n != 1 {
			t.Errorf("%v, %v: %d cuts", s, flags, n)
		}
	}
	if none < 50 || one < 50 || many < 50 {
		t.Errorf("%d flags for no cut, %d for one, %d for many", none, one, many)
	}
}
