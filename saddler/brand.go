package saddler

import (
	"pommel/api"
	"pommel/brand"
)

func (s *Saddler) addState(w words) (string, api.Errno) {
	if w[0] != "good" && w[0] != "bad" {
		return "", api.ErrForm
	}
	next, e := added(s.brand.Next, api.MaxStates, w.numbers(1))
	if e != api.OK {
		return "", e
	}
	s.brand = api.Brand{Next: next, Good: append(s.brand.Good, w[0] == "good")}
	return "", api.OK
}

func (s *Saddler) showBrand(words) (string, api.Errno) {
	elements, e := brand.Monoid(s.brand)
	groups, f := s.groups()
	simple, g := s.simple()
	return textLine("monoid", elements...) + groups + simple, firstError(e, f, g)
}

func (s *Saddler) groups() (string, api.Errno) {
	element, n, e := brand.Groups(s.brand)
	if e == api.ErrNone {
		return "groups none\n", api.OK
	}
	return numberLine("groups "+written(element), n), e
}

func (s *Saddler) simple() (string, api.Errno) {
	first, second, e := brand.Simple(s.brand)
	if e == api.ErrNone {
		return "simple yes\n", api.OK
	}
	return textLine("simple", first, second), e
}

func (s *Saddler) findReset(words) (string, api.Errno) {
	word, e := brand.Reset(s.brand)
	return textLine("reset", word), e
}

func (s *Saddler) acceptWord(w words) (string, api.Errno) {
	yes, e := brand.Accepts(s.brand, w.text(0))
	return answer(yes), e
}
