package watch

import (
	"math/rand"
	"slices"
	"testing"

	"pommel/api"
)

// The functions here compute by the chapter's definitions, however long it takes; the tests compare the package with them.

const mostDeeds = api.MaxHands * api.MaxDeeds

// deedsOf returns all deeds of a story.
func deedsOf(s api.Story) []api.Pair {
	var list []api.Pair
	for hand, deeds := range s.Deeds {
		for deed := 1; deed <= deeds; deed++ {
			list = append(list, api.Pair{A: hand, B: deed})
		}
	}
	return list
}

// order is which deeds come before which others.
type order [mostDeeds][mostDeeds]bool

func number(d api.Pair) int {
	return d.A*api.MaxDeeds + d.B - 1
}

func (o *order) before(a, b api.Pair) bool {
	return o[number(a)][number(b)]
}

// orderOf follows messages and hands over and over others.
func orderOf(s api.Story) *order {
	var o order
	for _, a := range deedsOf(s) {
		for _, b := range deedsOf(s) {
			o[number(a)][number(b)] = a.A == b.A && a.B < b.B
		}
	}
	for _, n := range s.Notes {
		o[number(api.Pair{A: n.From, B: n.Sent})][number(api.Pair{A: n.To, B: n.Received})] = true
	}
	for over := range mostDeeds {
		for a := range mostDeeds {
			for b := range mostDeeds {
				o[a][b] = o[a][b] || o[a][over] && o[over][b]
			}
		}
	}
	return &o
}

// isKnot reports whether a deed comes before itself.
func isKnot(s api.Story) bool {
	o := orderOf(s)
	return slices.ContainsFunc(deedsOf(s), func(d api.Pair) bool { return o.before(d, d) })
}

// each yields all lists with numbers from 0 to those of a list, in lexicographic order.
func each(most []int) func(yield func([]int) bool) {
	return func(yield func([]int) bool) {
		list := make([]int, len(most))
		for {
			if !yield(slices.Clone(list)) {
				return
			}
			i := len(list) - 1
			for i >= 0 && list[i] == most[i] {
				list[i] = 0
				i--
			}
			if i < 0 {
				return
			}
			list[i]++
		}
	}
}

// allCuts returns all cuts, in lexicographic order.
func allCuts(s api.Story) [][]int {
	return slices.Collect(each(s.Deeds))
}

// goodCuts returns the consistent cuts among some.
func goodCuts(s api.Story, cuts [][]int) [][]int {
	o, deeds := orderOf(s), deedsOf(s)
	var good [][]int
	for _, c := range cuts {
		ok := true
		for _, a := range deeds {
			for _, b := range deeds {
				if o.before(a, b) && b.B <= c[b.A] && a.B > c[a.A] {
					ok = false
				}
			}
		}
		if ok {
			good = append(good, c)
		}
	}
	return good
}

// isStep reports whether a cut has one deed more than another one.
func isStep(a, b []int) bool {
	more := 0
	for hand := range a {
		if b[hand] < a[hand] {
			return false
		}
		more += b[hand] - a[hand]
	}
	return more == 1
}

// lattice is the consistent cuts of a story, in lexicographic order, and for each the numbers of those with one deed more.
type lattice struct {
	cuts  [][]int
	steps [][]int
}

func latticeOf(s api.Story) lattice {
	l := lattice{cuts: goodCuts(s, allCuts(s))}
	for _, a := range l.cuts {
		var steps []int
		for hand := range a {
			b := slices.Clone(a)
			b[hand]++
			if i, ok := slices.BinarySearchFunc(l.cuts, b, slices.Compare); ok {
				steps = append(steps, i)
			}
		}
		l.steps = append(l.steps, steps)
	}
	return l
}

// fromEach returns for each consistent cut how many ways lead from it to the end without the cuts of a set.
func (l lattice) fromEach(set [][]int) []int {
	counts := make([]int, len(l.cuts))
	for i := len(l.cuts) - 1; i >= 0; i-- { // a cut with one deed more has a greater number
		if contains(set, l.cuts[i]) {
			continue
		}
		if i == len(l.cuts)-1 {
			counts[i] = 1
		}
		for _, next := range l.steps[i] {
			counts[i] += counts[next]
		}
	}
	return counts
}

// courses returns all courses, in any order.
func (l lattice) courses() [][][]int {
	var all [][][]int
	var follow func(course [][]int, at int)
	follow = func(course [][]int, at int) {
		course = append(slices.Clone(course), l.cuts[at])
		if at == len(l.cuts)-1 {
			all = append(all, course)
		}
		for _, next := range l.steps[at] {
			follow(course, next)
		}
	}
	follow(nil, 0)
	return all
}

func contains(set [][]int, c []int) bool {
	return slices.ContainsFunc(set, func(other []int) bool { return slices.Equal(c, other) })
}

func compareCourses(a, b [][]int) int {
	return slices.CompareFunc(a, b, slices.Compare)
}

func equalLists(a, b [][]int) bool {
	return slices.EqualFunc(a, b, slices.Equal)
}

// isWithin reports whether no number is greater than that of another list.
func isWithin(a, b []int) bool {
	for i := range a {
		if a[i] > b[i] {
			return false
		}
	}
	return true
}

// combined returns for each hand the least, or the greatest, number of some cuts.
func combined(cuts [][]int, pick func(...int) int) []int {
	var all []int
	for hand := range cuts[0] {
		var numbers []int
		for _, c := range cuts {
			numbers = append(numbers, c[hand])
		}
		all = append(all, pick(numbers...))
	}
	return all
}

func least(numbers ...int) int    { return slices.Min(numbers) }
func greatest(numbers ...int) int { return slices.Max(numbers) }

// areAllYes reports whether all hands say yes at a cut.
func areAllYes(flags [][]bool, c []int) bool {
	for hand := range flags {
		if !flags[hand][c[hand]] {
			return false
		}
	}
	return true
}

// turned returns the story backwards.
func turned(s api.Story) api.Story {
	back := api.Story{Deeds: slices.Clone(s.Deeds)}
	for _, n := range s.Notes {
		back.Notes = append(back.Notes, api.Note{From: n.To, Sent: s.Deeds[n.To] + 1 - n.Received, To: n.From, Received: s.Deeds[n.From] + 1 - n.Sent})
	}
	return back
}

// sum returns how many deeds a cut has.
func sum(c []int) int {
	total := 0
	for _, n := range c {
		total += n
	}
	return total
}

// someDeeds returns random numbers of deeds, up to a number.
func someDeeds(r *rand.Rand, most int) []int {
	deeds := make([]int, 1+r.Intn(api.MaxHands))
	for hand := range deeds {
		deeds[hand] = r.Intn(most + 1)
	}
	return deeds
}

// someStory returns a random story with at most so many messages: the deeds are shuffled, but for those of the same hand, and messages are sent to later ones.
func someStory(r *rand.Rand, deeds []int, most int) api.Story {
	s := api.Story{Deeds: deeds}
	var hands []int
	for hand, n := range deeds {
		hands = append(hands, slices.Repeat([]int{hand}, n)...)
	}
	r.Shuffle(len(hands), func(i, j int) { hands[i], hands[j] = hands[j], hands[i] })
	var line []api.Pair
	done := make([]int, len(deeds))
	for _, hand := range hands {
		done[hand]++
		line = append(line, api.Pair{A: hand, B: done[hand]})
	}
	for range r.Intn(most + 1) {
		i, j := r.Intn(len(line)+1), r.Intn(len(line)+1)
		if max(i, j) < len(line) && line[i].A != line[j].A {
			a, b := line[min(i, j)], line[max(i, j)]
			s.Notes = append(s.Notes, api.Note{From: a.A, Sent: a.B, To: b.A, Received: b.B})
		}
	}
	return s
}

// someSet returns a random set of cuts, each with a chance of one in so many, in any order, some twice.
func someSet(r *rand.Rand, cuts [][]int, chance int) [][]int {
	var set [][]int
	for _, c := range cuts {
		for r.Intn(chance) == 0 {
			set = append(set, c)
		}
	}
	r.Shuffle(len(set), func(i, j int) { set[i], set[j] = set[j], set[i] })
	return set
}

// someFlags returns random flags, of which one in so many says no.
func someFlags(r *rand.Rand, s api.Story, chance int) [][]bool {
	flags := sameFlags(s, true)
	for _, says := range flags {
		for i := range says {
			says[i] = r.Intn(chance) != 0
		}
	}
	return flags
}

// sameFlags returns flags by which all hands always say the same.
func sameFlags(s api.Story, yes bool) [][]bool {
	var flags [][]bool
	for _, deeds := range s.Deeds {
		flags = append(flags, slices.Repeat([]bool{yes}, deeds+1))
	}
	return flags
}

// notesOf returns messages, each written as four numbers.
func notesOf(numbers ...int) []api.Note {
	var notes []api.Note
	for n := range slices.Chunk(numbers, 4) {
		notes = append(notes, api.Note{From: n[0], Sent: n[1], To: n[2], Received: n[3]})
	}
	return notes
}

// someStories returns stories of all kinds, all of them valid.
func someStories() []api.Story {
	full := slices.Repeat([]int{api.MaxDeeds}, api.MaxHands)
	list := []api.Story{
		{Deeds: []int{0}}, {Deeds: []int{1}}, {Deeds: []int{api.MaxDeeds}}, {Deeds: []int{0, 0, 0, 0}}, {Deeds: []int{1, 1}}, {Deeds: full},
		{Deeds: []int{1, 1}, Notes: notesOf(0, 1, 1, 1)},
		{Deeds: []int{1, 1}, Notes: notesOf(0, 1, 1, 1, 0, 1, 1, 1)}, // twice between the same deeds
		{Deeds: []int{1, 1}, Notes: notesOf(1, 1, 0, 1)},
		{Deeds: []int{0, 2, 0, 2}, Notes: notesOf(1, 1, 3, 2)},
		{Deeds: []int{2, 2}, Notes: notesOf(0, 1, 1, 1, 1, 1, 0, 2)},
		{Deeds: []int{3, 3}, Notes: notesOf(0, 1, 1, 3, 1, 1, 0, 3)},
		{Deeds: []int{3, 1, 2}, Notes: notesOf(0, 2, 1, 1, 0, 2, 2, 1, 1, 1, 2, 2)},             // a deed that sends several
		{Deeds: []int{1, 2, 1, 3}, Notes: notesOf(0, 1, 3, 2, 1, 2, 3, 2, 2, 1, 3, 2)},          // a deed that receives several
		{Deeds: []int{2, 2, 2}, Notes: notesOf(0, 1, 1, 1, 2, 1, 1, 1, 1, 1, 0, 2, 1, 1, 2, 2)}, // a deed that does both
		{Deeds: []int{1, 1, 1, 1}, Notes: notesOf(2, 1, 3, 1, 1, 1, 2, 1, 0, 1, 1, 1)},          // one after the other
		{Deeds: []int{1, 1, 1, 1}, Notes: notesOf(3, 1, 2, 1, 2, 1, 1, 1, 1, 1, 0, 1)},
	}
	var ring []api.Note // the hands do their deeds in turns
	for deed := 1; deed <= api.MaxDeeds; deed++ {
		for hand := range api.MaxHands - 1 {
			ring = append(ring, api.Note{From: hand, Sent: deed, To: hand + 1, Received: deed})
		}
		if deed < api.MaxDeeds {
			ring = append(ring, api.Note{From: api.MaxHands - 1, Sent: deed, To: 0, Received: deed + 1})
		}
	}
	list = append(list, api.Story{Deeds: full, Notes: ring}, api.Story{Deeds: full, Notes: slices.Repeat(notesOf(2, 3, 1, 4), api.MaxNotes)})
	r := rand.New(rand.NewSource(1))
	for range 60 {
		list = append(list, someStory(r, someDeeds(r, 3), 6), someStory(r, someDeeds(r, api.MaxDeeds), 10))
	}
	for range 10 {
		list = append(list, someStory(r, full, api.MaxNotes))
	}
	return list
}

// smallStories yields all stories with some numbers of deeds and with so many messages, also those with deeds that come before themselves.
func smallStories(deeds []int, count int) func(yield func(api.Story) bool) {
	var all []api.Note
	for _, a := range deedsOf(api.Story{Deeds: deeds}) {
		for _, b := range deedsOf(api.Story{Deeds: deeds}) {
			if a.A != b.A {
				all = append(all, api.Note{From: a.A, Sent: a.B, To: b.A, Received: b.B})
			}
		}
	}
	return func(yield func(api.Story) bool) {
		for picks := range each(slices.Repeat([]int{len(all) - 1}, count)) {
			s := api.Story{Deeds: slices.Clone(deeds)}
			for _, i := range picks {
				s.Notes = append(s.Notes, all[i])
			}
			if !yield(s) {
				return
			}
		}
	}
}

// checkIs checks a result that is one cut.
func checkIs(t *testing.T, what string, got []int, e api.Errno, want []int) {
	t.Helper()
	if e != api.OK || !slices.Equal(got, want) {
		t.Errorf("%s = %v, %d, want %v", what, got, e, want)
	}
}
