package watch

import (
	"slices"

	"pommel/api"
)

// cut is how many deeds each hand has done; hands that are not in the story have done none.
type cut [api.MaxHands]int

// done returns how many deeds a hand has done.
func (c cut) done(hand int) int {
	return c[hand]
}

// meet returns the lesser number of each hand.
func (c cut) meet(other cut) cut {
	for hand, deeds := range other {
		c[hand] = min(c[hand], deeds)
	}
	return c
}

// join returns the greater number of each hand.
func (c cut) join(other cut) cut {
	for hand, deeds := range other {
		c[hand] = max(c[hand], deeds)
	}
	return c
}

// story is a valid story.
type story struct {
	end    cut     // all deeds
	clocks [][]cut // of each hand, the clocks of its deeds by their numbers; before them, by 0, that of a hand that has done nothing
}

// readStory returns a story with its clocks. The hands do their deeds as soon as they have received what they must; those that come before themselves are never done.
func readStory(s api.Story) (story, api.Errno) {
	if !isFormed(s) {
		return story{}, api.ErrArg
	}
	var t story
	copy(t.end[:], s.Deeds)
	for range s.Deeds {
		t.clocks = append(t.clocks, []cut{{}})
	}
	for done := (cut{}); done != t.end; {
		before := done
		for hand := range s.Deeds {
			if clock, ok := t.nextClock(s.Notes, hand); ok {
				t.clocks[hand] = append(t.clocks[hand], clock)
				done[hand]++
			}
		}
		if done == before {
			return story{}, api.ErrArg
		}
	}
	return t, api.OK
}

// isFormed reports whether a story has as many hands, deeds and messages as it may, and each message deeds of two hands.
func isFormed(s api.Story) bool {
	if len(s.Deeds) == 0 || len(s.Deeds) > api.MaxHands || len(s.Notes) > api.MaxNotes {
		return false
	}
	for _, deeds := range s.Deeds {
		if deeds < 0 || deeds > api.MaxDeeds {
			return false
		}
	}
	for _, note := range s.Notes {
		if note.From == note.To || !isDeed(s.Deeds, note.From, note.Sent) || !isDeed(s.Deeds, note.To, note.Received) {
			return false
		}
	}
	return true
}

// isDeed reports whether a hand is there and does the deed with a number.
func isDeed(deeds []int, hand, number int) bool {
	return hand >= 0 && hand < len(deeds) && number >= 1 && number <= deeds[hand]
}

// nextClock returns the clock of the next deed of a hand, and whether it can be done: there is one, and all that it receives is sent.
func (t story) nextClock(notes []api.Note, hand int) (cut, bool) {
	deed := len(t.clocks[hand])
	if deed > t.end[hand] {
		return cut{}, false
	}
	clock := t.clocks[hand][deed-1]
	clock[hand] = deed
	for _, note := range notes {
		if note.To != hand || note.Received != deed {
			continue
		}
		if note.Sent >= len(t.clocks[note.From]) {
			return cut{}, false
		}
		clock = clock.join(t.clocks[note.From][note.Sent])
	}
	return clock, true
}

// hasDeed reports whether a pair is a hand and one of its deeds.
func (t story) hasDeed(p api.Pair) bool {
	return isDeed(t.end[:len(t.clocks)], p.A, p.B)
}

// readCut returns a cut, and whether it is well-formed.
func (t story) readCut(list []int) (cut, bool) {
	if len(list) != len(t.clocks) {
		return cut{}, false
	}
	var c cut
	copy(c[:], list)
	return c, c.join(cut{}) == c && c.meet(t.end) == c
}

// readWithCut returns a story and a cut of it.
func readWithCut(s api.Story, list []int) (story, cut, api.Errno) {
	t, e := readStory(s)
	if e != api.OK {
		return story{}, cut{}, e
	}
	c, ok := t.readCut(list)
	if !ok {
		return story{}, cut{}, api.ErrForm
	}
	return t, c, api.OK
}

// list returns a cut as a list of its own.
func (t story) list(c cut) []int {
	return slices.Clone(c[:len(t.clocks)])
}

func (t story) lists(cuts []cut) [][]int {
	var lists [][]int
	for _, c := range cuts {
		lists = append(lists, t.list(c))
	}
	return lists
}

// forth returns the least consistent cut at which each hand has done at least this: its last deed, and all that come before that.
func (t story) forth(done func(hand int) int) cut {
	var c cut
	for hand, clocks := range t.clocks {
		c = c.join(clocks[done(hand)])
	}
	return c
}

// back returns the greatest consistent cut at which no hand has done more. Each hand goes back to its last deed that has nothing before it beyond the cut.
func (t story) back(c cut) cut {
	b := c
	for hand, clocks := range t.clocks {
		for clocks[b[hand]].meet(c) != clocks[b[hand]] {
			b[hand]--
		}
	}
	return b
}

func (t story) isConsistent(c cut) bool {
	return t.forth(c.done) == c
}
