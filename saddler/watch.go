package saddler

import (
	"pommel/api"
	"pommel/watch"
)

func (s *Saddler) addHand(w words) (reply string, e api.Errno) {
	s.story.Deeds, e = added(s.story.Deeds, api.MaxHands, w.number(0))
	return "", e
}

func (s *Saddler) addNote(w words) (reply string, e api.Errno) {
	s.story.Notes, e = added(s.story.Notes, api.MaxNotes, api.Note{From: w.number(0), Sent: w.number(1), To: w.number(2), Received: w.number(3)})
	return "", e
}

func (s *Saddler) countCuts(words) (string, api.Errno) {
	cuts, e := watch.Cuts(s.story)
	courses, f := watch.Courses(s.story)
	return numberLine("cuts", cuts) + numberLine("courses", courses), firstError(e, f)
}

func (s *Saddler) goBack(w words) (string, api.Errno) {
	cut, e := watch.Back(s.story, w.numbers(0))
	return numberLine("cut", cut...), e
}

func (s *Saddler) goForth(w words) (string, api.Errno) {
	cut, e := watch.Forth(s.story, w.numbers(0))
	return numberLine("cut", cut...), e
}
