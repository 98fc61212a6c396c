package saddler

import (
	"fmt"
	"slices"
	"strings"
	"testing"
	"unsafe"

	"pommel/api"
)

// sample is a line that is well formed, and what its words after the first one are; "..." after the last one: it may come any number of times.
type sample struct {
	line, form string
}

// samples are lines of all commands; on the workshop of readyLines they are not malformed for what they do, either.
func samples() []sample {
	return []sample{
		{"firm 1", "N"}, {"owe 0 1 4", "N N N"}, {"clear", ""}, {"cancel", ""}, {"settle 1 -1", "N ..."},
		{"square 1 0 1", "N N N"}, {"cut", ""}, {"compound", ""}, {"lay 2 1 1", "N N ..."}, {"fewest 2 3", "N N"},
		{"letters 2", "N"}, {"commute 0 1", "N N"}, {"seam a", "WORD"}, {"meet a a", "WORD WORD"}, {"join a a", "WORD WORD"}, {"rest a a", "WORD WORD"}, {"count 3", "N"},
		{"single 3", "N"}, {"full 3", "N"}, {"holes 0 1", "N ..."}, {"round 7 3 1", "N N N"},
		{"unlike 0 0", "N ..."}, {"tree", ""}, {"joined", ""}, {"isolated", ""}, {"below", ""},
		{"job 1 1", "N N"}, {"before 0 1", "N N"}, {"best", ""}, {"chance 1 1/2 1/2", "N NUM ..."}, {"value", ""},
		{"state good 0 0", "GOOD N ..."}, {"brand", ""}, {"reset", ""}, {"accepts a", "WORD"},
		{"mark 1", "WORD"}, {"code", ""}, {"read 0", "WORD"}, {"huffman 1 1", "N ..."}, {"tucker 1 1", "N ..."},
		{"hand 1", "N"}, {"note 0 1 1 1", "N N N N"}, {"cuts", ""}, {"back 1 1", "N ..."}, {"forth 1 1", "N ..."},
		{"put b 1", "KEY STRING"}, {"delete a", "KEY"}, {"commit", ""}, {"abort", ""}, {"get -1 a", "N KEY"}, {"scan -1", "N"}, {"view", ""}, {"drop 0", "N"},
		{"arm 9", "N"}, {"restart 9", "N"}, {"open", ""}, {"drops code", "WHAT"},
	}
}

// readyLines build a workshop in which something of everything is there.
func readyLines() []string {
	return []string{
		"firm 1", "firm 0", "owe 1 0 2", "square 0 0 1", "letters 3", "commute 1 2", "unlike 0 1", "unlike 1 0", "job 3 1", "job 1 1", "chance 2 1/2 1/2",
		"state good 0 0", "mark 0", "hand 1", "hand 1", "put a 1", "commit", "put a 2",
	}
}

// ready returns that workshop, with a view.
func ready(t *testing.T) *Saddler {
	t.Helper()
	s := done(t, readyLines()...)
	check(t, s, "view", reply("view 0"))
	return s
}

// TestSamples: each command is there, and not malformed.
func TestSamples(t *testing.T) {
	for _, x := range samples() {
		if got := ready(t).Line(x.line); strings.HasPrefix(got, "!") {
			t.Errorf("%q: %q", x.line, got)
		}
	}
	if n := len(samples()); n != 57 { // the table's words but try
		t.Errorf("%d commands", n)
	}
}

// TestFirstLine: only the part before the first newline is used.
func TestFirstLine(t *testing.T) {
	s := done(t, "firm 1\nfirm 2", "\nfirm 3", "firm 1\n", "#\nfirm 4", "owe 0 1 4\n\nowe 0 1 5")
	check(t, s, "clear\nx y", reply("clear 1 0", "least 1 0", "keeps 0 2", "fails 0"))
	check(t, s, "x\nclear", refused(api.ErrForm))
	check(t, s, "firm \n1", refused(api.ErrForm))
	check(t, s, "firm 1\r\n", refused(api.ErrForm)) // no other byte ends a line
}

// TestLong: rule 1, before rules 2 and 3.
func TestLong(t *testing.T) {
	s := New()
	for _, first := range []string{"#", "firm ", "x", " ", "put a ", "try ", "try #", "\x00", "ä"} {
		longest := first + strings.Repeat("1", api.MaxLine-len(first))
		if got := s.Line(longest); got == refused(api.ErrLong) {
			t.Errorf("%q: a line of %d bytes: %q", first, len(longest), got)
		}
		if got := s.Line(longest + "\n" + longest); got == refused(api.ErrLong) {
			t.Errorf("%q: a line of %d bytes and a newline: %q", first, len(longest), got)
		}
		checkRefused(t, s, longest+"1", api.ErrLong)
		checkRefused(t, s, longest+"1\n", api.ErrLong)
		checkRefused(t, s, longest+" ", api.ErrLong)
		checkRefused(t, s, longest+strings.Repeat("1", 1<<20), api.ErrLong)
	}
	// A line of words that is as long as a line can be.
	zeros := "settle" + strings.Repeat(" 0", (api.MaxLine-len("settle"))/2)
	checkRefused(t, s, zeros, api.ErrArg)
	checkRefused(t, s, zeros+" 0", api.ErrLong)
	text := strings.Repeat("0", api.MaxLine-len("put a "))
	checkRefused(t, s, "put a "+text, api.ErrArg)
	checkRefused(t, s, "put a "+text+"0", api.ErrLong)
}

// TestSilent: rule 2.
func TestSilent(t *testing.T) {
	s := ready(t)
	before := s.Clone()
	for _, line := range []string{"", "#", "# clear", "#clear", "# a  b ", "##", "# \x00", "\n", "\nclear", "#\nclear"} {
		check(t, s, line, "")
		checkSame(t, line, s, before)
	}
	checkRefused(t, s, " #", api.ErrForm)
	checkRefused(t, s, "clear #", api.ErrForm)
}

// TestBlanks: rule 3: words are separated by single blanks, and by nothing else.
func TestBlanks(t *testing.T) {
	s := ready(t)
	for _, x := range samples() {
		lines := []string{" " + x.line, x.line + " ", "  " + x.line, x.line + "  ", "\t" + x.line}
		if anyWord := strings.HasSuffix(x.form, "WORD") || strings.HasSuffix(x.form, "KEY") || strings.HasSuffix(x.form, "STRING"); !anyWord {
			lines = append(lines, x.line+"\t", x.line+"\r", x.line+"\x00", x.line+"\v")
		}
		for i, letter := range x.line {
			if letter == ' ' {
				for _, blank := range []string{"  ", "   ", "\t", "\u00a0", "\x00", ","} {
					lines = append(lines, x.line[:i]+blank+x.line[i+1:])
				}
			}
		}
		for _, line := range lines {
			checkRefused(t, s, line, api.ErrForm)
		}
	}
	for _, line := range []string{" ", "  ", "\t", "\r", "\x00"} {
		checkRefused(t, s, line, api.ErrForm)
	}
}

// TestEmptyWords: rule 3: no word is empty, where any words may be either.
func TestEmptyWords(t *testing.T) {
	s := ready(t)
	for _, x := range samples() {
		list := strings.Split(x.line, " ")
		for i := range list {
			changed := slices.Clone(list)
			changed[i] = ""
			if line := strings.Join(changed, " "); line != "" {
				checkRefused(t, s, line, api.ErrForm)
			}
		}
	}
	for _, line := range []string{"meet  ", "put  ", "put  1", "put a ", "seam ", "mark ", "delete ", "get -1 ", "read ", "accepts "} {
		checkRefused(t, s, line, api.ErrForm)
		check(t, s, "try "+line, refused(api.ErrForm))
	}
}

// TestFirstWords: rule 3: a first word that is no command.
func TestFirstWords(t *testing.T) {
	s := ready(t)
	for _, x := range samples() {
		first, rest, _ := strings.Cut(x.line+" ", " ")
		rest = strings.TrimSuffix(" "+rest, " ")
		for _, other := range []string{strings.ToUpper(first), strings.ToUpper(first[:1]) + first[1:], first + "1", first[:len(first)-1], "-" + first, first + "-", "#" + first + "#", first + "s"} {
			known := slices.ContainsFunc(samples(), func(y sample) bool { return strings.Fields(y.line)[0] == other })
			if other == "" || other[0] == '#' || known {
				continue
			}
			checkRefused(t, s, other+rest, api.ErrForm)
		}
	}
	for _, word := range []string{"-", "x", "help", "trys", "tries", "TRY", "!", "0", "squares", "threads", "market", "yes", "\xff", "заказ"} {
		checkRefused(t, s, word, api.ErrForm)
		checkRefused(t, s, word+" firm 1", api.ErrForm)
	}
}

// TestWordCounts: rule 4: too few words, and too many; any number, also none, where the table says so.
func TestWordCounts(t *testing.T) {
	for _, x := range samples() {
		s := ready(t)
		list, names := strings.Fields(x.line), strings.Fields(x.form)
		fixed, any := len(names), strings.HasSuffix(x.form, "...")
		if any {
			fixed -= 2
		}
		for n := range fixed {
			checkRefused(t, s, strings.Join(list[:1+n], " "), api.ErrForm)
		}
		if !any {
			for _, more := range []string{"0", "-", "a", "...", "0 0"} {
				checkRefused(t, s, x.line+" "+more, api.ErrForm)
			}
		}
	}
	// Lists of no words, of which no function says that they are malformed.
	s := ready(t)
	check(t, s, "settle", refused(api.ErrArg))
	check(t, s, "lay 5", refused(api.ErrArg))
	check(t, s, "huffman", refused(api.ErrArg))
	check(t, s, "tucker", refused(api.ErrArg))
	checkSilent(t, s, "unlike", "chance 1", "state bad")
	check(t, s, "tree", refused(api.ErrArg))
	check(t, s, "value", refused(api.ErrArg))
	check(t, s, "reset", refused(api.ErrArg))
	check(t, s, "holes", refused(api.ErrForm))
	check(t, s, "back", refused(api.ErrForm))
	check(t, s, "forth", refused(api.ErrForm))
}

// TestNumbers: rule 4: each number of each command.
func TestNumbers(t *testing.T) {
	s := ready(t)
	malformed := map[string][]string{
		"N": {"-", "a", "-0", "00", "01", "-01", "--1", "+1", "1-", "1.0", "1/1", "1/2", "4/2", "0/1", "0x1", "1_0", "1e2", "1,0", "1234567890", "-1234567890", "0000000001", "99999999999999999999",
			"\t1", "1\t", "٣", "１", "\x00", "N", "..."},
		"NUM":  {"-", "a", "-0", "00", "01", "-01", "+1", "--1", "1.0", "2/4", "1/1", "0/1", "0/2", "1/0", "0/0", "1/-2", "1/02", "01/2", "/2", "1/", "/", "-/2", "1//2", "1/2/3", "½", "1/2\t", "NUM"},
		"GOOD": {"Good", "BAD", "goo", "goods", "-", "yes", "1", "true"},
		"WHAT": {"threads", "chest", "disk", "Market", "-", "job", "pairs", "all", "firms", "distance", "drops", "1"},
	}
	for _, x := range samples() {
		list, names := strings.Fields(x.line), strings.Fields(x.form)
		for i := range list[1:] {
			name := names[min(i, len(names)-1)]
			if name == "..." {
				name = names[len(names)-2]
			}
			for _, word := range malformed[name] {
				changed := slices.Clone(list)
				changed[1+i] = word
				checkRefused(t, s, strings.Join(changed, " "), api.ErrForm)
			}
		}
	}
	// The words are checked before what the command names, and before what it calls.
	checkSilent(t, s, "firm 0", "firm 0", "firm 0", "firm 0", "firm 0", "firm 0")
	checkRefused(t, s, "firm 0", api.ErrFull)
	checkRefused(t, s, "firm 01", api.ErrForm)
	checkRefused(t, s, "owe 8 9 01", api.ErrForm)
	checkRefused(t, s, "owe 8 9 1", api.ErrArg)
	checkSilent(t, s, "state bad", "state bad", "state bad", "state bad", "state bad")
	checkRefused(t, s, "state good 1", api.ErrFull)
	checkRefused(t, s, "state ugly 1", api.ErrForm)
	checkRefused(t, s, "state good 1 -0", api.ErrForm)
}

// TestNumbersThatAre: numbers of 1 to 9 digits, with a minus sign or without.
func TestNumbersThatAre(t *testing.T) {
	for _, n := range []int{0, 1, -1, 9, -9, 10, -10, 123456789, -123456789, 999999999, -999999999, 100000000} {
		s := done(t, line("firm", n), "firm 0")
		checkSame(t, "firm", s, done(t, fmt.Sprintf("firm %d", n), "firm 0"))
		if n < 0 || n > api.MaxDebt { // the table names no error of firm for it
			check(t, s, "clear", refused(api.ErrArg))
			checkModel(t, s, model{letters: 1, cash: []int{n, 0}, debts: [][]int{{0, 0}, {0, 0}}})
		}
		check(t, s, line("settle", n, -n), settleSaid([]int{n, -n}))
		if n == 0 {
			continue
		}
		check(t, s, line("drop", n), refused(api.ErrArg))
		check(t, s, line("count", n), map[bool]string{true: reply("count 1"), false: refused(api.ErrArg)}[n > 0 && n <= api.MaxSeam])
	}
}

// TestNums: valid Nums, also long ones, are words of chance; what they are is checked when they are used.
func TestNums(t *testing.T) {
	long := strings.Repeat("9", 400)
	for _, l := range [][]string{{"1"}, {"1/2", "1/2"}, {"-1/2", "3/2"}, {"0", "1"}, {"7"}, {"-12/5"}, {long}, {"1/" + long}, {"-" + long + "/1" + strings.Repeat("0", 400)}, {"9999/10000", "1/10000"}, {"99/100", "1/100"}} {
		c := api.Chance{Weight: 3}
		for _, n := range l {
			c.Lengths = append(c.Lengths, api.Num(n))
		}
		m := model{letters: 1, chances: []api.Chance{c}}
		checkModel(t, done(t, m.lines()...), m)
	}
	s := New()
	checkRefused(t, s, "chance 1 "+long+"/"+long, api.ErrForm)
	checkRefused(t, s, "chance 1 1/"+strings.Repeat("3", 400)+" 3/"+long, api.ErrForm)
}

// TestStrings: WORD, KEY and STRING are any words; - stands for the empty one.
func TestStrings(t *testing.T) {
	s := New()
	for _, word := range []string{"--", "!", "#", "0", "-0", "01", "ä", "\xff\xfe", "\x00", "\t", "\r", "a=b", "try", "put", "yes", "..."} {
		checkSilent(t, s, "put "+word+" "+word)
		check(t, s, "get -1 "+word, reply("value "+word))
		check(t, s, "scan -1", reply("entry "+word+" "+word))
		checkSilent(t, s, "delete "+word)
	}
	checkSilent(t, s, "put a -")
	check(t, s, "get -1 a", reply("value -"))
	checkRefused(t, s, "put - a", api.ErrArg) // keys have a byte
	checkRefused(t, s, "delete -", api.ErrArg)
	checkRefused(t, s, "get -1 -", api.ErrArg)
	check(t, s, "seam -", reply("steps", "least -", "ways 1"))
	check(t, s, "seam --", refused(api.ErrForm))
	checkSilent(t, s, "state good 0", "mark 0")
	check(t, s, "accepts -", reply("yes"))
	check(t, s, "read -", reply("read", "readings 1"))
	checkSilent(t, s, "mark -")
	check(t, s, "code", refused(api.ErrForm)) // words of a code have a letter
	check(t, s, "read -", refused(api.ErrForm))
}

// TestLinesAreNotKept: R5: a line that is written over later changes nothing.
func TestLinesAreNotKept(t *testing.T) {
	m := model{letters: 2, chances: []api.Chance{{Lengths: []api.Num{"1/2", "1/2"}, Weight: 2}}, code: []string{"0", "01", "10"}}
	s := New()
	for _, text := range append(m.lines(), "put key value") {
		bytes := []byte(text)
		checkSilent(t, s, unsafe.String(&bytes[0], len(bytes)))
		for i := range bytes {
			bytes[i] = '7'
		}
	}
	checkModel(t, s, m)
	check(t, s, "scan -1", reply("entry key value"))
	// A reply is not a part of the line, either.
	for _, text := range []string{"get -1 key", "seam ab", "read 010", "lay 2 1 1"} {
		bytes := []byte(text)
		got := s.Line(unsafe.String(&bytes[0], len(bytes)))
		want := strings.Clone(got)
		clear(bytes)
		if got != want || want == "" {
			t.Errorf("%q: %q, then %q", text, want, got)
		}
	}
}
