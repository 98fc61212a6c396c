package saddler

import (
	"fmt"
	"math/rand"
	"strings"
	"testing"

	"pommel/api"
	"pommel/hide"
	"pommel/mark"
	"pommel/strap"
)

// checkReplies does lines on a new workshop; each one is followed by the lines of its reply.
func checkReplies(t *testing.T, steps [][]string) {
	t.Helper()
	s := New()
	for _, step := range steps {
		check(t, s, step[0], reply(step[1:]...))
	}
}

func TestMarketReplies(t *testing.T) {
	checkReplies(t, [][]string{
		{"firm 1"}, {"firm 0"}, {"owe 0 1 4"}, {"owe 1 0 2"},
		{"clear", "clear 3 2", "least 3 2", "keeps 0 1", "fails 0"},
		{"cancel", "cancelled 4", "yes"},
		{"owe 1 0 0"}, // a debt may become 0
		{"clear", "clear 1 0", "least 1 0", "keeps 0 1", "fails 0"},
		{"cancel", "cancelled 0", "yes"},
		{"owe 0 1 1"},
		{"clear", "clear 1 0", "least 1 0", "keeps 0 1"}, // nobody fails
		{"firm 0"}, // without debts, and nobody owes it anything
		{"clear", "clear 1 0 0", "least 1 0 0", "keeps 0 1 0"},
		{"owe 0 2 2"}, {"owe 2 1 1"},
		{"clear", "clear 1 0 2/3", "least 1 0 2/3", "keeps 0 1 0", "fails 0", "fails 2"},
		{"settle 3 -3 2 -1 -1", "group 0 1", "group 2 3 4", "payments 3"},
		{"settle 0", "group 0", "payments 0"},
		{"drops market"}, {"firm 0"}, {"firm 0"}, {"owe 0 1 5"}, {"owe 1 0 5"},
		{"clear", "clear 5 5", "least 0 0", "keeps 0 0"},
		{"cancel", "cancelled 10", "yes"},
	})
}

func TestHideReplies(t *testing.T) {
	checkReplies(t, [][]string{
		{"square 2 1 1"}, {"square 0 0 2"}, {"square 2 0 1"},
		{"cut", "cut 3 2", "code 2 1 1", "nodes 3", "wire 0 2", "wire 0 1", "wire 1 2", "no"},
		{"compound", "compound 1 2"},
		{"lay 32 18 14 4 10 15 7 1 9 8", "laid 9"}, // the squares from before are gone
		{"cut", "cut 32 33", "code 18 14 4 10 15 7 1 9 8", "nodes 6",
			"wire 0 2", "wire 0 1", "wire 1 2", "wire 1 3", "wire 2 5", "wire 2 4", "wire 3 4", "wire 3 5", "wire 4 5", "yes"},
		{"compound", "simple"},
		{"lay 7 7", "laid 1"},
		{"cut", "cut 7 7", "code 7", "nodes 2", "wire 0 1", "yes"},
		{"square 7 0 7"},
		{"cut", "cut 14 7", "code 7 7", "nodes 2", "wire 0 1", "wire 0 1", "no"},
		{"fewest 2 3", "code 1 1 2"}, {"fewest 5 5", "code 5"},
	})
}

func TestSeamReplies(t *testing.T) {
	checkReplies(t, [][]string{
		{"seam aa", "steps a a", "least aa", "ways 1"}, // at first there is one letter
		{"count 5", "count 1"},
		{"letters 3"}, {"commute 0 1"},
		{"seam bac", "steps ab c", "least abc", "ways 2"}, {"seam -", "steps", "least -", "ways 1"},
		{"meet abc bb", "seam b"}, {"meet a c", "seam -"}, {"join a b", "seam ab"}, {"join - -", "seam -"},
		{"rest b abc", "seam ac"}, {"rest abc bac", "seam -"}, {"rest - ba", "seam ab"},
		{"count 0", "count 1"}, {"count 1", "count 3"}, {"count 2", "count 8"},
		{"letters 2"}, // the pairs are gone
		{"seam ba", "steps b a", "least ba", "ways 1"},
		{"count 2", "count 4"}, {"count 60", "count 1152921504606846976"},
		{"letters 6"}, {"count 60", "count 48873677980689257489322752273774603865660850176"},
	})
}

func TestStrapReplies(t *testing.T) {
	checkReplies(t, [][]string{
		{"single 4", "strap 0 1 4 6"}, {"single 1", "strap 0"}, {"full 6", "strap 0 1 4 6"}, {"full 1", "strap 0 1"},
		{"holes 0 1 4 6", "once", "misses"}, {"holes 0 1 2 5", "twice 0 1 1 2", "misses"}, {"holes 0 3 6", "twice 0 3 3 6", "misses 1 2 4 5"}, {"holes 0", "once", "misses"},
		{"round 7 3 1", "round 0 1 3", "multipliers 1 2 4"},
		{"round 31 6 1", "round 0 1 3 8 12 18", "multipliers 1 5 25"},
	})
}

func TestKinReplies(t *testing.T) {
	checkReplies(t, [][]string{
		{"unlike 0"}, {"tree"}, {"joined"}, {"isolated"}, {"below", "row 0"},
		{"drops distances"}, {"unlike 0 3 4"}, {"unlike 3 0 5"}, {"unlike 4 5 0"},
		{"tree", "split 2 1", "split 3 2", "split 1 1 2"},
		{"joined", "split 2 1", "split 3 2", "split 1 1 2"},
		{"isolated", "split 2 1", "split 3 2", "split 1 1 2"},
		{"below", "row 0 3 4", "row 3 0 4", "row 4 4 0"},
		{"drops distances"}, {"unlike 0 1 2 1"}, {"unlike 1 0 1 2"}, {"unlike 2 1 0 1"}, {"unlike 1 2 1 0"},
		{"tree", "unfit 0 1 2 3"},
		{"isolated", "split 1 1 2", "split 1 2 3"},
		{"drops distances"}, {"unlike 0 1 1"}, {"unlike 1 0 1"}, {"unlike 1 1 0"},
		{"tree", "split 1/2 1", "split 1/2 2", "split 1/2 1 2"},
	})
}

func TestJobReplies(t *testing.T) {
	checkReplies(t, [][]string{
		{"job 3 1"}, {"job 1 1"},
		{"best", "best 1 0", "cost 5", "set 1", "set 0"},
		{"before 0 1"},
		{"best", "best 0 1", "cost 7", "set 0 1"},
		{"drops jobs"}, {"job 3 1"}, {"job 1 1"}, // without the pair
		{"best", "best 1 0", "cost 5", "set 1", "set 0"},
		{"chance 2 1/2 1/2"},
		{"value", "value 3", "follow 3"},
		{"chance 1 0 0 1"},
		{"value", "value 15/2", "follow 15/2"},
	})
}

func TestBrandReplies(t *testing.T) {
	checkReplies(t, [][]string{
		{"state good 1"}, {"state bad 0"},
		{"brand", "monoid - a", "groups a 2", "simple - a"},
		{"accepts aa", "yes"}, {"accepts a", "no"}, {"accepts -", "yes"},
		{"drops brand"}, {"state bad 1 0"}, {"state good 1 1"},
		{"brand", "monoid - a", "groups none", "simple yes"},
		{"reset", "reset a"},
		{"drops brand"}, {"state bad 1 0"}, {"state bad 2 1"}, {"state bad 2 2"},
		{"reset", "reset aa"}, {"brand", "monoid -", "groups none", "simple yes"},
		{"drops brand"}, {"state good 0"},
		{"reset", "reset -"}, {"accepts aaa", "yes"},
	})
}

func TestMarkReplies(t *testing.T) {
	checkReplies(t, [][]string{
		{"mark 0"}, {"mark 01"},
		{"code", "clear"},
		{"mark 10"},
		{"code", "unclear 010"},
		{"read 010", "read 0 2", "readings 2"}, {"read -", "read", "readings 1"}, {"read 0010", "read 0 0 2", "readings 2"},
		{"huffman 1 1 2", "lengths 2 2 1", "cost 6"}, {"huffman 1 3 1", "lengths 2 1 2", "cost 7"}, {"tucker 1 3 1", "lengths 1 2 2", "cost 9"},
	})
}

func TestStoryReplies(t *testing.T) {
	checkReplies(t, [][]string{
		{"hand 1"}, {"hand 1"},
		{"cuts", "cuts 4", "courses 2"},
		{"note 0 1 1 1"},
		{"cuts", "cuts 3", "courses 1"},
		{"back 0 1", "cut 0 0"}, {"forth 0 1", "cut 1 1"},
		{"drops story"}, {"hand 0"},
		{"cuts", "cuts 1", "courses 1"}, {"back 0", "cut 0"}, {"forth 0", "cut 0"},
	})
}

func TestChestReplies(t *testing.T) {
	checkReplies(t, [][]string{
		{"scan -1"}, {"put a 1"}, {"get -1 a", "value 1"}, {"view", "view 0"}, {"get 0 a", "! 5"}, {"scan 0"},
		{"commit"}, {"view", "view 1"}, {"get 1 a", "value 1"},
		{"put b 2"}, {"put a -"}, {"get -1 a", "value -"}, {"scan -1", "entry a -", "entry b 2"}, {"scan 1", "entry a 1"},
		{"abort"}, {"get -1 b", "! 5"}, {"get -1 a", "value 1"},
		{"delete a"}, {"get -1 a", "! 5"}, {"abort"}, {"get -1 a", "value 1"},
		{"drop 0"}, {"scan 0", "! 1"}, {"scan 1", "entry a 1"}, {"view", "view 2"},
		{"put c 3"}, {"arm 1"}, {"commit", "! 8"}, {"get -1 c", "value 3"}, {"put d 4", "! 6"},
		{"open", "! 8"}, {"get -1 c", "! 6"}, {"restart 0"}, {"get -1 a", "! 6"}, {"open"}, {"get -1 a", "value 1"}, {"view", "view 0"},
		{"arm 1"}, {"arm 0"}, {"put c 3"}, {"commit"}, {"restart 0"}, {"get -1 c", "value 3"}, {"put d 4", "! 6"},
		{"open"}, {"scan -1", "entry a 1", "entry c 3"},
	})
}

// TestModels: L1: what the functions return for what was built by lines; some of it is malformed.
func TestModels(t *testing.T) {
	models := sampleModels(t, 150)
	models = append(models, model{letters: 1})
	seen := map[string]bool{}
	for _, m := range models {
		s := done(t, m.lines()...)
		checkModel(t, s, m)
		for _, q := range m.questions() {
			first := strings.Fields(q.line)[0]
			for _, line := range strings.Split(q.want, "\n") {
				word, rest, _ := strings.Cut(line, " ")
				if rest == "none" || rest == "yes" || word == "!" {
					word = line
				}
				seen[first+": "+word] = true
			}
		}
	}
	for _, want := range []string{
		"clear: fails", "clear: ! 1", "cancel: yes", "cut: yes", "cut: no", "cut: ! 2", "compound: simple", "compound: compound", "seam: ways", "seam: ! 2", "seam: ! 3",
		"meet: seam", "join: seam", "join: ! 5", "rest: seam", "rest: ! 5", "count: ! 1", "tree: split", "tree: unfit", "tree: ! 1", "joined: split", "isolated: split", "below: row",
		"best: set", "value: follow", "brand: groups", "brand: groups none", "brand: simple", "brand: simple yes", "reset: reset", "reset: ! 5", "accepts: yes", "accepts: no", "accepts: ! 2",
		"code: unclear", "code: clear", "read: read", "read: ! 5", "read: ! 2", "cuts: courses", "cuts: ! 1", "back: cut", "back: ! 2", "forth: cut",
	} {
		if !seen[want] {
			t.Errorf("no question and reply %q", want)
		}
	}
}

func TestHideCommands(t *testing.T) {
	for width := -1; width <= api.MaxFloor+1; width++ {
		for height := -1; height <= api.MaxFloor+1; height++ {
			var x said
			code, e := hide.Fewest(width, height)
			x.add(e, "code", code)
			check(t, New(), line("fewest", width, height), x.text())
		}
	}
	r := rand.New(rand.NewSource(3))
	for range 300 {
		width := 1 + r.Intn(6)
		sizes, e := hide.Euclid(width, 1+r.Intn(12))
		if e != api.OK {
			continue
		}
		if r.Intn(3) == 0 {
			sizes[r.Intn(len(sizes))] = r.Intn(4)
		}
		s := done(t, "square 0 0 9")
		squares, e := hide.Lay(width, sizes)
		if e != api.OK {
			checkRefused(t, s, line("lay", width, sizes), e)
			continue
		}
		check(t, s, line("lay", width, sizes), reply(line("laid", len(squares))))
		checkModel(t, s, model{letters: 1, squares: squares})
	}
}

func TestStrapCommands(t *testing.T) {
	s := New()
	for n := -1; n <= api.MaxSparse+1; n++ {
		var x, y said
		holes, e := strap.Single(n)
		x.add(e, "strap", holes)
		check(t, s, line("single", n), x.text())
		holes, e = strap.Full(n)
		y.add(e, "strap", holes)
		check(t, s, line("full", n), y.text())
	}
	for v := 1; v <= api.MaxRound+1; v++ {
		for k := 1; k <= 7; k++ {
			for often := range 4 {
				check(t, s, line("round", v, k, often), roundSaid(v, k, often))
			}
		}
	}
	r := rand.New(rand.NewSource(4))
	for range 300 {
		holes := []int{r.Intn(20) / 19}
		for range r.Intn(8) {
			holes = append(holes, holes[len(holes)-1]+r.Intn(9))
		}
		check(t, s, line("holes", holes), holesSaid(holes))
	}
	check(t, s, line("holes", make([]int, api.MaxMarks+1)), refused(api.ErrLong))
}

func TestListCommands(t *testing.T) {
	s, r := New(), rand.New(rand.NewSource(5))
	for range 300 {
		var list []int
		for range r.Intn(6) {
			list = append(list, r.Intn(5)-r.Intn(2))
		}
		var huffman, tucker said
		lengths, cost, e := mark.Huffman(list)
		huffman.add(e, "lengths", lengths)
		huffman.add(e, "cost", cost)
		check(t, s, line("huffman", list), huffman.text())
		lengths, cost, e = mark.Tucker(list)
		tucker.add(e, "lengths", lengths)
		tucker.add(e, "cost", cost)
		check(t, s, line("tucker", list), tucker.text())

		sum := 0
		for i := range list {
			list[i] -= 2
			sum += list[i]
		}
		if r.Intn(8) > 0 {
			list = append(list, -sum)
		}
		check(t, s, line("settle", list), settleSaid(list))
	}
}

// TestBranchBelowZero: a branch of joining neighbours has a length below 0, which is rare.
func TestBranchBelowZero(t *testing.T) {
	upper := []int{25, 45, 47, 48, 24, 25, 44, 28, 24, 24, 8, 47, 29, 44, 45, 29, 21, 25, 48, 24, 24, 44, 25, 24, 44, 48, 29, 20}
	m := model{letters: 1, distances: make([][]int, api.MaxKin)}
	for i := range api.MaxKin {
		m.distances[i] = make([]int, api.MaxKin)
	}
	for i := range api.MaxKin {
		for j := i + 1; j < api.MaxKin; j++ {
			m.distances[i][j], m.distances[j][i] = upper[0], upper[0]
			upper = upper[1:]
		}
	}
	s := done(t, m.lines()...)
	checkModel(t, s, m)
	if joined := s.Line("joined"); !strings.Contains(joined, "split -") {
		t.Errorf("no branch is below 0: %q", joined)
	}
}

// TestMaxMonoid: a monoid of as many elements as are allowed, and one more.
func TestMaxMonoid(t *testing.T) {
	m := model{letters: 1, brand: api.Brand{Next: [][]int{{2, 3}, {5, 0}, {4, 4}, {1, 4}, {5, 2}, {3, 0}}, Good: []bool{false, false, false, true, true, false}}}
	s := done(t, m.lines()...)
	checkModel(t, s, m)
	if n := len(strings.Fields(strings.Split(m.monoid(), "\n")[0])); n != 1+api.MaxMonoid {
		t.Errorf("the line has %d words", n)
	}
	checkSilent(t, s, "drops brand", "state bad 2 3", "state good 5 0", "state good 4 4", "state good 4 1", "state good 0 3", "state bad 3 0")
	checkRefused(t, s, "brand", api.ErrFull)
}

// TestFullChest: a chest with all its entries.
func TestFullChest(t *testing.T) {
	s := New()
	var want []string
	for i := range api.MaxEntries {
		checkSilent(t, s, fmt.Sprintf("put key%05d %016d", i, i))
		want = append(want, fmt.Sprintf("entry key%05d %016d", i, i))
	}
	check(t, s, "scan -1", reply(want...))
	checkRefused(t, s, "put more 1", api.ErrFull)
	checkSilent(t, s, "put key00000 -", "commit", "restart 0", "open")
	want[0] = "entry key00000 -"
	check(t, s, "scan -1", reply(want...))
}
