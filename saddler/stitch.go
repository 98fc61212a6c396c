package saddler

import (
	"pommel/api"
	"pommel/stitch"
)

// maxCommuting is how many pairs of letters a list may have that package stitch takes.
const maxCommuting = 30

func (s *Saddler) setLetters(w words) (string, api.Errno) {
	n := w.number(0)
	if n < 1 || n > api.MaxLetters {
		return "", api.ErrArg
	}
	s.letters, s.commuting = n, nil
	return "", api.OK
}

func (s *Saddler) addCommuting(w words) (reply string, e api.Errno) {
	s.commuting, e = added(s.commuting, maxCommuting, api.Pair{A: w.number(0), B: w.number(1)})
	return "", e
}

func (s *Saddler) showSeam(w words) (string, api.Errno) {
	seam := w.text(0)
	steps, e := stitch.Steps(s.letters, s.commuting, seam)
	least, f := stitch.Least(s.letters, s.commuting, seam)
	ways, g := stitch.Ways(s.letters, s.commuting, seam)
	return textLine("steps", steps...) + textLine("least", least) + numberLine("ways", ways), firstError(e, f, g)
}

func (s *Saddler) meetSeams(w words) (string, api.Errno) {
	seam, e := stitch.Meet(s.letters, s.commuting, w.text(0), w.text(1))
	return textLine("seam", seam), e
}

func (s *Saddler) joinSeams(w words) (string, api.Errno) {
	seam, e := stitch.Join(s.letters, s.commuting, w.text(0), w.text(1))
	return textLine("seam", seam), e
}

func (s *Saddler) restOfSeam(w words) (string, api.Errno) {
	seam, e := stitch.Rest(s.letters, s.commuting, w.text(0), w.text(1))
	return textLine("seam", seam), e
}

func (s *Saddler) countSeams(w words) (string, api.Errno) {
	count, e := stitch.Count(s.letters, s.commuting, w.number(0))
	return textLine("count", count), e
}
