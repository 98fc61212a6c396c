package saddler

import (
	"math/rand"
	"slices"
	"strconv"
	"strings"
	"testing"

	"pommel/api"
)

// lineOf returns the words after the first one of a line of a reply.
func lineOf(t *testing.T, reply, first string) []string {
	t.Helper()
	for _, line := range strings.Split(reply, "\n") {
		if list := strings.Fields(line); len(list) > 0 && list[0] == first {
			return list[1:]
		}
	}
	t.Fatalf("%q has no line %q", reply, first)
	return nil
}

func numbersOf(t *testing.T, words []string) []int {
	t.Helper()
	var list []int
	for _, word := range words {
		n, err := strconv.Atoi(word)
		if err != nil {
			t.Fatal(err)
		}
		list = append(list, n)
	}
	return list
}

// TestExamples: the examples of the chapter, and those of the document that lines show.
func TestExamples(t *testing.T) {
	checkReplies(t, [][]string{
		{"firm 1"}, {"firm 0"}, {"owe 0 1 4"}, {"owe 1 0 2"}, {"clear", "clear 3 2", "least 3 2", "keeps 0 1", "fails 0"},
		{"lay 32 18 14 4 10 15 7 1 9 8", "laid 9"},
		{"letters 3"}, {"commute 0 1"}, {"seam bac", "steps ab c", "least abc", "ways 2"},
		{"put a 1"}, {"commit"}, {"delete a"}, {"abort"}, {"get -1 a", "value 1"},
		{"single 4", "strap 0 1 4 6"},
	})
	s := done(t)
	s.Line("lay 32 18 14 4 10 15 7 1 9 8")
	got := s.Line("cut")
	if !strings.HasPrefix(got, reply("cut 32 33", "code 18 14 4 10 15 7 1 9 8", "nodes 6")) || strings.Count(got, "\nwire ") != 9 || !strings.HasSuffix(got, "\nyes\n") {
		t.Errorf("cut: %q", got)
	}
}

// TestExact: P1.
func TestExact(t *testing.T) {
	checkReplies(t, [][]string{
		{"firm 1"}, {"firm 0"}, {"firm 0"}, {"owe 0 1 2"}, {"owe 0 2 1"}, {"owe 1 0 1"},
		{"clear", "clear 2 1 0", "least 2 1 0", "keeps 0 1/3 2/3", "fails 0"},
	})
	s := done(t, "letters 6")
	check(t, s, "count 60", reply("count 48873677980689257489322752273774603865660850176")) // 6^60
	check(t, s, "settle 10000 -10000 10000 -10000 10000 -10000 10000 -10000 10000 -10000", reply("group 0 1", "group 2 3", "group 4 5", "group 6 7", "group 8 9", "payments 5"))
	checkSilent(t, s, "firm 1000", "firm 0", "firm 0", "owe 0 1 1000", "owe 0 2 500")
	check(t, s, "clear", reply("clear 1000 0 0", "least 1000 0 0", "keeps 0 2000/3 1000/3", "fails 0"))
}

// TestCertificates: P2: what proves a result, checked by whoever reads the reply.
func TestCertificates(t *testing.T) {
	for _, m := range sampleModels(t, 60) {
		s := done(t, m.lines()...)
		if got := s.Line("cancel"); !strings.HasSuffix(got, "\nyes\n") {
			t.Errorf("cancel: %q", got)
		}
		cut := s.Line("cut")
		size := lineOf(t, cut, "cut")
		again := New()
		again.Line("lay " + size[0] + " " + strings.Join(lineOf(t, cut, "code"), " "))
		check(t, again, "cut", cut)
		if got := s.Line("code"); strings.HasPrefix(got, "unclear ") {
			text := lineOf(t, got, "unclear")[0]
			if n := lineOf(t, s.Line("read "+text), "readings")[0]; n < "2" {
				t.Errorf("%q has %s readings", text, n)
			}
		}
		if got := s.Line("tree"); !strings.HasPrefix(got, "unfit") {
			checkSplits(t, got, m.distances)
		}
		order := numbersOf(t, lineOf(t, s.Line("best"), "best"))
		for _, pair := range m.order {
			if slices.Index(order, pair.A) > slices.Index(order, pair.B) {
				t.Errorf("%v is no order with %v", order, pair)
			}
		}
	}
}

// checkSplits checks that the lengths of splits sum to distances; the lengths are wholes or halves.
func checkSplits(t *testing.T, text string, distances [][]int) {
	t.Helper()
	for i := range distances {
		for j := range distances {
			twice := 0
			for _, line := range strings.Split(strings.TrimSpace(text), "\n") {
				if line == "" {
					continue
				}
				list := strings.Fields(line)
				whole, isHalf := strings.CutSuffix(list[1], "/2")
				length, set := numbersOf(t, []string{whole})[0], numbersOf(t, list[2:])
				if !isHalf {
					length *= 2
				}
				if slices.Contains(set, i) != slices.Contains(set, j) {
					twice += length
				}
			}
			if twice != 2*distances[i][j] {
				t.Fatalf("%q: half of %d, want %d", text, twice, distances[i][j])
			}
		}
	}
}

// TestFirst: P3: the first of several results.
func TestFirst(t *testing.T) {
	checkReplies(t, [][]string{
		{"job 1 1"}, {"job 1 1"}, {"job 1 1"}, {"best", "best 0 1 2", "cost 6", "set 0 1 2"},
		{"round 7 3 1", "round 0 1 3", "multipliers 1 2 4"}, {"huffman 1 1 1", "lengths 1 2 2", "cost 5"}, {"fewest 3 2", "code 1 2 1"},
		{"letters 2"}, {"commute 1 0"}, {"seam bbaa", "steps ab ab", "least aabb", "ways 6"},
		{"mark 0"}, {"mark 00"}, {"read 000", "read 0 0 0", "readings 3"}, {"code", "unclear 00"},
		{"settle 1 -1 1 -1", "group 0 1", "group 2 3", "payments 2"},
	})
}

// TestSameForms: P4: equal seams, and brands that accept the same words.
func TestSameForms(t *testing.T) {
	s := done(t, "letters 4", "commute 0 1", "commute 2 0", "commute 3 1")
	want := s.Line("seam abcdab")
	for _, seam := range []string{"bacdab", "bcadab", "bcadba", "abcdba"} {
		check(t, s, "seam "+seam, want)
	}
	if got := s.Line("seam acbdab"); got == want {
		t.Error("seams that are not equal have the same form")
	}
	one := done(t, "state good 1 0", "state bad 0 1")
	two := done(t, "state good 3 2", "state bad 0 1", "state good 1 0", "state bad 2 3", "state good 4 4")
	check(t, two, "brand", one.Line("brand"))
	check(t, one, "brand", reply("monoid - a", "groups a 2", "simple - a"))
	r := rand.New(rand.NewSource(14))
	for range 200 {
		word := ""
		for range r.Intn(12) {
			word += []string{"a", "b"}[r.Intn(2)]
		}
		check(t, two, line("accepts", word), one.Line(line("accepts", word)))
	}
}

// TestSameAgain: R6: the same lines have the same replies, on any workshop.
func TestSameAgain(t *testing.T) {
	for _, m := range sampleModels(t, 10) {
		s, other := done(t, m.lines()...), done(t, m.lines()...)
		for _, q := range m.questions() {
			check(t, s, q.line, other.Line(q.line))
			check(t, s, q.line, other.Line(q.line))
		}
	}
}

// TestAnyBytes: R1: no line lets a workshop panic, and each reply is whole lines.
func TestAnyBytes(t *testing.T) {
	r := rand.New(rand.NewSource(15))
	list := samples()
	s := New()
	for range 30000 {
		words := strings.Fields(list[r.Intn(len(list))].line)
		for range r.Intn(3) {
			i := r.Intn(len(words))
			words[i] = []string{"-1", "0", "1", "2", "999999999", "-999999999", "-", "a", "ab", "0", "1/2", "good", "market", "\xff", "try", "", "#", "\n"}[r.Intn(18)]
		}
		for range r.Intn(2) {
			words = append(words, strconv.Itoa(r.Intn(40)-3))
		}
		got := s.Line(strings.Join(words, " "))
		if got != "" && got[len(got)-1] != '\n' || strings.Contains(got, "\n\n") || strings.Contains(got, " \n") || strings.Contains(got, "  ") {
			t.Fatalf("%q: %q", words, got)
		}
		if e := strings.Count("\n"+got, "\n! "); e > 0 && (len(got) != 4 || got[2] < '1' || got[2] > '8') {
			t.Fatalf("%q: %q", words, got)
		}
	}
	for b := range 256 {
		for _, line := range []string{string([]byte{byte(b)}), "put " + string([]byte{byte(b)}) + " x", "mark " + string([]byte{byte(b)})} {
			s.Line(line)
			s.Line("try " + line)
		}
	}
	s = done(t, "drops code")
	if got := s.Line("code"); got != refused(api.ErrForm) {
		t.Errorf("code: %q", got)
	}
}
