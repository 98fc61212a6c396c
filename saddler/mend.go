package saddler

import (
	"pommel/api"
	"pommel/mend"
)

func (s *Saddler) addJob(w words) (reply string, e api.Errno) {
	s.jobs, e = added(s.jobs, api.MaxJobs, api.Job{Length: w.number(0), Weight: w.number(1)})
	return "", e
}

func (s *Saddler) addOrder(w words) (reply string, e api.Errno) {
	s.order, e = added(s.order, api.MaxPairs, api.Pair{A: w.number(0), B: w.number(1)})
	return "", e
}

func (s *Saddler) findBest(words) (string, api.Errno) {
	best, cost, e := mend.Best(s.jobs, s.order)
	sets, f := mend.Sidney(s.jobs, s.order)
	return numberLine("best", best...) + numberLine("cost", cost) + rowLines("set", sets), firstError(e, f)
}

func (s *Saddler) addChance(w words) (reply string, e api.Errno) {
	s.chances, e = added(s.chances, api.MaxChances, api.Chance{Weight: w.number(0), Lengths: w.nums(1)})
	return "", e
}

func (s *Saddler) showValue(words) (string, api.Errno) {
	value, e := mend.Value(s.chances)
	follow, f := mend.Follow(s.chances)
	return textLine("value", value) + textLine("follow", follow), firstError(e, f)
}
