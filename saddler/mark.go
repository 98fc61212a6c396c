package saddler

import (
	"pommel/api"
	"pommel/mark"
)

func (s *Saddler) addMark(w words) (reply string, e api.Errno) {
	s.code, e = added(s.code, api.MaxMarked, w.text(0))
	return "", e
}

func (s *Saddler) showCode(words) (string, api.Errno) {
	text, e := mark.Clear(s.code)
	if e == api.ErrNone {
		return "clear\n", api.OK
	}
	return textLine("unclear", text), e
}

func (s *Saddler) readText(w words) (string, api.Errno) {
	text := w.text(0)
	reading, e := mark.Read(s.code, text)
	count, f := mark.Readings(s.code, text)
	return numberLine("read", reading...) + textLine("readings", count), firstError(e, f)
}

func (s *Saddler) findHuffman(w words) (string, api.Errno) {
	lengths, cost, e := mark.Huffman(w.numbers(0))
	return numberLine("lengths", lengths...) + numberLine("cost", cost), e
}

func (s *Saddler) findTucker(w words) (string, api.Errno) {
	lengths, cost, e := mark.Tucker(w.numbers(0))
	return numberLine("lengths", lengths...) + numberLine("cost", cost), e
}
