package saddler

import (
	"pommel/api"
	"pommel/strap"
)

func (s *Saddler) findSingle(w words) (string, api.Errno) {
	holes, e := strap.Single(w.number(0))
	return numberLine("strap", holes...), e
}

func (s *Saddler) findFull(w words) (string, api.Errno) {
	holes, e := strap.Full(w.number(0))
	return numberLine("strap", holes...), e
}

func (s *Saddler) showHoles(w words) (string, api.Errno) {
	holes := w.numbers(0)
	twice, e := strap.Twice(holes)
	misses, f := strap.Misses(holes)
	reply := numberLine("twice", twice...)
	if e == api.ErrNone {
		reply, e = "once\n", api.OK
	}
	return reply + numberLine("misses", misses...), firstError(e, f)
}

func (s *Saddler) findRound(w words) (string, api.Errno) {
	places := w.number(0)
	set, e := strap.Round(places, w.number(1), w.number(2))
	multipliers, f := strap.Multipliers(places, set)
	return numberLine("round", set...) + numberLine("multipliers", multipliers...), firstError(e, f)
}
