package saddler

import (
	"pommel/api"
	"pommel/chest"
)

// The functions of package chest return ErrState if there is no chest, and so do these commands.

func (s *Saddler) put(w words) (string, api.Errno) {
	return "", s.chest.Put(w.text(0), w.text(1))
}

func (s *Saddler) remove(w words) (string, api.Errno) {
	return "", s.chest.Delete(w.text(0))
}

func (s *Saddler) commit(words) (string, api.Errno) {
	return "", s.chest.Commit()
}

func (s *Saddler) abort(words) (string, api.Errno) {
	return "", s.chest.Abort()
}

func (s *Saddler) get(w words) (string, api.Errno) {
	value, e := s.chest.Get(w.number(0), w.text(1))
	return textLine("value", value), e
}

func (s *Saddler) scan(w words) (string, api.Errno) {
	entries, e := s.chest.Scan(w.number(0), "", "")
	return each(entries, func(x api.Entry) string { return textLine("entry", x.Key, x.Value) }), e
}

func (s *Saddler) takeView(words) (string, api.Errno) {
	view, e := s.chest.View()
	return numberLine("view", view), e
}

func (s *Saddler) dropView(w words) (string, api.Errno) {
	return "", s.chest.Drop(w.number(0))
}

func (s *Saddler) arm(w words) (string, api.Errno) {
	s.disk.Arm(w.number(0))
	return "", api.OK
}

func (s *Saddler) restart(w words) (string, api.Errno) {
	s.disk.Restart(w.number(0))
	return "", api.OK
}

func (s *Saddler) open(words) (string, api.Errno) {
	var e api.Errno
	s.chest, e = chest.Open(s.disk)
	return "", e
}
