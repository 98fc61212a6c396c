package saddler

import "pommel/api"

// command is what a command takes, as the chapter's table writes it, and what it does.
type command struct {
	form string
	do   func(s *Saddler, w words) (string, api.Errno)
}

// find returns the command with a name.
func find(name string) (command, bool) {
	if c, ok := benchCommands()[name]; ok {
		return c, true
	}
	c, ok := chestCommands()[name]
	return c, ok
}

// benchCommands are the commands of the layers 1 to 9, and the one that drops what they keep.
func benchCommands() map[string]command {
	return map[string]command{
		"firm":     {"CASH", (*Saddler).addFirm},
		"owe":      {"FROM TO AMOUNT", (*Saddler).setDebt},
		"clear":    {"", (*Saddler).clearDebts},
		"cancel":   {"", (*Saddler).cancelDebts},
		"settle":   {"N ...", (*Saddler).settleBalances},
		"square":   {"X Y SIZE", (*Saddler).addSquare},
		"cut":      {"", (*Saddler).showCut},
		"compound": {"", (*Saddler).showCompound},
		"lay":      {"WIDTH N ...", (*Saddler).layCode},
		"fewest":   {"WIDTH HEIGHT", (*Saddler).findFewest},
		"letters":  {"N", (*Saddler).setLetters},
		"commute":  {"A B", (*Saddler).addCommuting},
		"seam":     {"WORD", (*Saddler).showSeam},
		"meet":     {"WORD WORD", (*Saddler).meetSeams},
		"join":     {"WORD WORD", (*Saddler).joinSeams},
		"rest":     {"WORD WORD", (*Saddler).restOfSeam},
		"count":    {"N", (*Saddler).countSeams},
		"single":   {"K", (*Saddler).findSingle},
		"full":     {"LENGTH", (*Saddler).findFull},
		"holes":    {"N ...", (*Saddler).showHoles},
		"round":    {"V K OFTEN", (*Saddler).findRound},
		"unlike":   {"N ...", (*Saddler).addDistances},
		"tree":     {"", (*Saddler).showTree},
		"joined":   {"", (*Saddler).showJoined},
		"isolated": {"", (*Saddler).showIsolated},
		"below":    {"", (*Saddler).showBelow},
		"job":      {"LENGTH WEIGHT", (*Saddler).addJob},
		"before":   {"A B", (*Saddler).addOrder},
		"best":     {"", (*Saddler).findBest},
		"chance":   {"WEIGHT NUM ...", (*Saddler).addChance},
		"value":    {"", (*Saddler).showValue},
		"state":    {"WORD N ...", (*Saddler).addState},
		"brand":    {"", (*Saddler).showBrand},
		"reset":    {"", (*Saddler).findReset},
		"accepts":  {"WORD", (*Saddler).acceptWord},
		"mark":     {"WORD", (*Saddler).addMark},
		"code":     {"", (*Saddler).showCode},
		"read":     {"WORD", (*Saddler).readText},
		"huffman":  {"N ...", (*Saddler).findHuffman},
		"tucker":   {"N ...", (*Saddler).findTucker},
		"hand":     {"DEEDS", (*Saddler).addHand},
		"note":     {"FROM SENT TO RECEIVED", (*Saddler).addNote},
		"cuts":     {"", (*Saddler).countCuts},
		"back":     {"N ...", (*Saddler).goBack},
		"forth":    {"N ...", (*Saddler).goForth},
		"drops":    {"WORD", (*Saddler).dropPart},
	}
}

// chestCommands are the commands of the chest and its disk.
func chestCommands() map[string]command {
	return map[string]command{
		"put":     {"KEY STRING", (*Saddler).put},
		"delete":  {"KEY", (*Saddler).remove},
		"commit":  {"", (*Saddler).commit},
		"abort":   {"", (*Saddler).abort},
		"get":     {"VIEW KEY", (*Saddler).get},
		"scan":    {"VIEW", (*Saddler).scan},
		"view":    {"", (*Saddler).takeView},
		"drop":    {"VIEW", (*Saddler).dropView},
		"arm":     {"N", (*Saddler).arm},
		"restart": {"KEEP", (*Saddler).restart},
		"open":    {"", (*Saddler).open},
	}
}

// dropPart makes a part of the workshop as it was at first.
func (s *Saddler) dropPart(w words) (string, api.Errno) {
	switch w[0] {
	case "market":
		s.cash, s.debts = nil, nil
	case "squares":
		s.squares = nil
	case "distances":
		s.distances = nil
	case "jobs":
		s.jobs, s.order = nil, nil
	case "chances":
		s.chances = nil
	case "brand":
		s.brand = api.Brand{}
	case "code":
		s.code = nil
	case "story":
		s.story = api.Story{}
	default:
		return "", api.ErrForm
	}
	return "", api.OK
}
