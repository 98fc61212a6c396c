package saddler

import (
	"pommel/api"
	"pommel/kin"
)

func (s *Saddler) addDistances(w words) (reply string, e api.Errno) {
	s.distances, e = added(s.distances, api.MaxKin, w.numbers(0))
	return "", e
}

func (s *Saddler) showTree(words) (string, api.Errno) {
	splits, e := kin.Tree(s.distances)
	if e == api.ErrNone {
		four, f := kin.Fits(s.distances)
		return numberLine("unfit", four...), f
	}
	return splitLines(splits), e
}

func (s *Saddler) showJoined(words) (string, api.Errno) {
	splits, e := kin.Join(s.distances)
	return splitLines(splits), e
}

func (s *Saddler) showIsolated(words) (string, api.Errno) {
	splits, e := kin.Isolated(s.distances)
	return splitLines(splits), e
}

func splitLines(splits []api.Split) string {
	return each(splits, func(split api.Split) string {
		return numberLine("split "+string(split.Length), split.Set...)
	})
}

func (s *Saddler) showBelow(words) (string, api.Errno) {
	rows, e := kin.Below(s.distances)
	return rowLines("row", rows), e
}
