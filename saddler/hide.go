package saddler

import (
	"pommel/api"
	"pommel/hide"
)

func (s *Saddler) addSquare(w words) (reply string, e api.Errno) {
	s.squares, e = added(s.squares, api.MaxSquares, api.Square{X: w.number(0), Y: w.number(1), Size: w.number(2)})
	return "", e
}

func (s *Saddler) showCut(words) (string, api.Errno) {
	width, height, e := hide.Measure(s.squares)
	code, f := hide.Code(s.squares)
	nodes, wires, g := hide.Network(s.squares)
	perfect, h := hide.Perfect(s.squares)
	reply := numberLine("cut", width, height) + numberLine("code", code...) + numberLine("nodes", nodes)
	reply += each(wires, func(wire api.Pair) string { return numberLine("wire", wire.A, wire.B) })
	return reply + answer(perfect), firstError(e, f, g, h)
}

func (s *Saddler) showCompound(words) (string, api.Errno) {
	set, e := hide.Compound(s.squares)
	if e == api.ErrNone {
		return "simple\n", api.OK
	}
	return numberLine("compound", set...), e
}

func (s *Saddler) layCode(w words) (string, api.Errno) {
	squares, e := hide.Lay(w.number(0), w.numbers(1))
	if e != api.OK {
		return "", e
	}
	s.squares = squares
	return numberLine("laid", len(squares)), api.OK
}

func (s *Saddler) findFewest(w words) (string, api.Errno) {
	code, e := hide.Fewest(w.number(0), w.number(1))
	return numberLine("code", code...), e
}
