package saddler

import (
	"math/rand"
	"slices"
	"testing"

	"pommel/api"
	"pommel/brand"
	"pommel/debt"
	"pommel/hide"
	"pommel/kin"
	"pommel/mark"
	"pommel/mend"
	"pommel/stitch"
	"pommel/strap"
	"pommel/watch"
)

// model is what a workshop has, but for its chest.
type model struct {
	cash      []int
	debts     [][]int
	squares   []api.Square
	letters   int
	commuting []api.Pair
	distances [][]int
	jobs      []api.Job
	order     []api.Pair
	chances   []api.Chance
	brand     api.Brand
	code      []string
	story     api.Story
}

// question is a line that changes nothing, and the reply to it.
type question struct {
	line, want string
}

// lines are those that build the model in a new workshop.
func (m model) lines() []string {
	list := []string{line("letters", m.letters)}
	for _, cash := range m.cash {
		list = append(list, line("firm", cash))
	}
	for from, row := range m.debts {
		for to, amount := range row {
			list = append(list, line("owe", from, to, amount))
		}
	}
	for _, x := range m.squares {
		list = append(list, line("square", x.X, x.Y, x.Size))
	}
	for _, pair := range m.commuting {
		list = append(list, line("commute", pair.A, pair.B))
	}
	for _, row := range m.distances {
		list = append(list, line("unlike", row))
	}
	for _, job := range m.jobs {
		list = append(list, line("job", job.Length, job.Weight))
	}
	for _, pair := range m.order {
		list = append(list, line("before", pair.A, pair.B))
	}
	for _, c := range m.chances {
		list = append(list, line("chance", c.Weight, c.Lengths))
	}
	for i, row := range m.brand.Next {
		list = append(list, line("state", map[bool]string{true: "good", false: "bad"}[m.brand.Good[i]], row))
	}
	for _, word := range m.code {
		list = append(list, line("mark", word))
	}
	for _, deeds := range m.story.Deeds {
		list = append(list, line("hand", deeds))
	}
	for _, n := range m.story.Notes {
		list = append(list, line("note", n.From, n.Sent, n.To, n.Received))
	}
	return list
}

// questions are those that show all that the model has.
func (m model) questions() []question {
	list := []question{
		{"clear", m.clear()}, {"cancel", m.cancel()}, {"cut", m.cut()}, {"compound", m.compound()},
		{"tree", m.tree()}, {"joined", splitsSaid(kin.Join(m.distances))}, {"isolated", splitsSaid(kin.Isolated(m.distances))}, {"below", m.below()},
		{"best", m.best()}, {"value", m.value()}, {"brand", m.monoid()}, {"reset", m.reset()}, {"code", m.unclear()}, {"cuts", m.cuts()},
	}
	for _, n := range []int{-1, 0, 1, 2, 7, api.MaxSeam, api.MaxSeam + 1} {
		list = append(list, question{line("count", n), m.count(n)})
	}
	for _, seam := range []string{"", "a", "bac", "abcabc", "ba", "fedcba", "aXb", "cccccccccccccccccc", "aaaaaaaaaaaaaaaaaaaaaaaaaaaaaaaaaaaaaaaaaaaaaaaaaaaa"} {
		list = append(list, question{line("seam", seam), m.seam(seam)})
		for _, other := range []string{"", "ab", "ba", "abcabcab"} {
			list = append(list, question{line("meet", seam, other), seamSaid(stitch.Meet(m.letters, m.commuting, seam, other))})
			list = append(list, question{line("join", seam, other), seamSaid(stitch.Join(m.letters, m.commuting, seam, other))})
			list = append(list, question{line("rest", seam, other), seamSaid(stitch.Rest(m.letters, m.commuting, seam, other))})
		}
	}
	for _, word := range []string{"", "a", "ab", "ba", "abba", "aab", "c", "bbbb"} {
		list = append(list, question{line("accepts", word), m.accepts(word)})
	}
	for _, text := range []string{"", "0", "1", "010", "0101", "110100", "2"} {
		list = append(list, question{line("read", text), m.read(text)})
	}
	for _, cut := range [][]int{{}, {0}, {1}, {1, 0}, {0, 1}, {2, 1}, {1, 2, 0}, {0, 0, 3}, {1, 1, 1, 1}} {
		list = append(list, question{line("back", cut), cutSaid(watch.Back(m.story, cut))})
		list = append(list, question{line("forth", cut), cutSaid(watch.Forth(m.story, cut))})
	}
	return list
}

func (m model) clear() string {
	var x said
	most, e := debt.Clear(m.cash, m.debts)
	x.add(e, "clear", most)
	least, e := debt.Least(m.cash, m.debts)
	x.add(e, "least", least)
	keeps, e := debt.Keeps(m.cash, m.debts)
	x.add(e, "keeps", keeps)
	rounds, e := debt.Fails(m.cash, m.debts)
	x.addRows(e, "fails", rounds)
	return x.text()
}

func (m model) cancel() string {
	var x said
	rest, less, e := debt.Cancel(m.debts)
	x.add(e, "cancelled", less)
	prices, e := debt.Prices(m.debts)
	x.fail(e)
	proves, e := debt.Proves(m.debts, rest, prices)
	x.add(e, yesNo(proves))
	return x.text()
}

func settleSaid(balances []int) string {
	var x said
	groups, e := debt.Groups(balances)
	x.addRows(e, "group", groups)
	payments, e := debt.Settle(balances)
	x.add(e, "payments", len(payments))
	return x.text()
}

func (m model) cut() string {
	var x said
	width, height, e := hide.Measure(m.squares)
	x.add(e, "cut", width, height)
	code, e := hide.Code(m.squares)
	x.add(e, "code", code)
	nodes, wires, e := hide.Network(m.squares)
	x.add(e, "nodes", nodes)
	for _, wire := range wires {
		x.add(e, "wire", wire.A, wire.B)
	}
	perfect, e := hide.Perfect(m.squares)
	x.add(e, yesNo(perfect))
	return x.text()
}

func (m model) compound() string {
	var x said
	set, e := hide.Compound(m.squares)
	if e == api.ErrNone {
		return reply("simple")
	}
	x.add(e, "compound", set)
	return x.text()
}

func (m model) seam(seam string) string {
	var x said
	steps, e := stitch.Steps(m.letters, m.commuting, seam)
	x.add(e, "steps", steps)
	least, e := stitch.Least(m.letters, m.commuting, seam)
	x.add(e, "least", least)
	ways, e := stitch.Ways(m.letters, m.commuting, seam)
	x.add(e, "ways", ways)
	return x.text()
}

func seamSaid(seam string, e api.Errno) string {
	var x said
	x.add(e, "seam", seam)
	return x.text()
}

func (m model) count(n int) string {
	var x said
	count, e := stitch.Count(m.letters, m.commuting, n)
	x.add(e, "count", count)
	return x.text()
}

func (m model) tree() string {
	splits, e := kin.Tree(m.distances)
	if e != api.ErrNone {
		return splitsSaid(splits, e)
	}
	var x said
	four, e := kin.Fits(m.distances)
	x.add(e, "unfit", four)
	return x.text()
}

func splitsSaid(splits []api.Split, e api.Errno) string {
	var x said
	x.fail(e)
	for _, split := range splits {
		x.add(e, "split", split.Length, split.Set)
	}
	return x.text()
}

func (m model) below() string {
	var x said
	rows, e := kin.Below(m.distances)
	x.addRows(e, "row", rows)
	return x.text()
}

func (m model) best() string {
	var x said
	best, cost, e := mend.Best(m.jobs, m.order)
	x.add(e, "best", best)
	x.add(e, "cost", cost)
	sets, e := mend.Sidney(m.jobs, m.order)
	x.addRows(e, "set", sets)
	return x.text()
}

func (m model) value() string {
	var x said
	value, e := mend.Value(m.chances)
	x.add(e, "value", value)
	follow, e := mend.Follow(m.chances)
	x.add(e, "follow", follow)
	return x.text()
}

func (m model) monoid() string {
	var x said
	elements, e := brand.Monoid(m.brand)
	x.add(e, "monoid", elements)
	if element, n, e := brand.Groups(m.brand); e == api.ErrNone {
		x.add(api.OK, "groups", "none")
	} else {
		x.add(e, "groups", element, n)
	}
	if first, second, e := brand.Simple(m.brand); e == api.ErrNone {
		x.add(api.OK, "simple", "yes")
	} else {
		x.add(e, "simple", first, second)
	}
	return x.text()
}

func (m model) reset() string {
	var x said
	word, e := brand.Reset(m.brand)
	x.add(e, "reset", word)
	return x.text()
}

func (m model) accepts(word string) string {
	var x said
	yes, e := brand.Accepts(m.brand, word)
	x.add(e, yesNo(yes))
	return x.text()
}

func (m model) unclear() string {
	var x said
	text, e := mark.Clear(m.code)
	if e == api.ErrNone {
		return reply("clear")
	}
	x.add(e, "unclear", text)
	return x.text()
}

func (m model) read(text string) string {
	var x said
	reading, e := mark.Read(m.code, text)
	x.add(e, "read", reading)
	count, e := mark.Readings(m.code, text)
	x.add(e, "readings", count)
	return x.text()
}

func (m model) cuts() string {
	var x said
	cuts, e := watch.Cuts(m.story)
	x.add(e, "cuts", cuts)
	courses, e := watch.Courses(m.story)
	x.add(e, "courses", courses)
	return x.text()
}

func cutSaid(cut []int, e api.Errno) string {
	var x said
	x.add(e, "cut", cut)
	return x.text()
}

func holesSaid(holes []int) string {
	var x said
	if twice, e := strap.Twice(holes); e == api.ErrNone {
		x.add(api.OK, "once")
	} else {
		x.add(e, "twice", twice)
	}
	misses, e := strap.Misses(holes)
	x.add(e, "misses", misses)
	return x.text()
}

func roundSaid(v, k, often int) string {
	var x said
	set, e := strap.Round(v, k, often)
	x.add(e, "round", set)
	multipliers, e := strap.Multipliers(v, set)
	x.add(e, "multipliers", multipliers)
	return x.text()
}

// checkModel checks all that a workshop replies to the questions of a model.
func checkModel(t *testing.T, s *Saddler, m model) {
	t.Helper()
	for _, q := range m.questions() {
		check(t, s, q.line, q.want)
	}
}

// sampleModels returns models that have something of everything, each of them something else.
func sampleModels(t *testing.T, n int) []model {
	t.Helper()
	r := rand.New(rand.NewSource(11))
	var list []model
	for range n {
		m := model{letters: 1 + r.Intn(api.MaxLetters)}
		m.cash, m.debts = sampleMarket(r)
		m.squares = sampleCut(t, r)
		m.commuting = samplePairs(r, m.letters, r.Intn(8), true)
		m.distances = sampleDistances(r)
		for range 1 + r.Intn(5) {
			m.jobs = append(m.jobs, api.Job{Length: 1 + r.Intn(9), Weight: r.Intn(9)})
		}
		m.order = samplePairs(r, len(m.jobs), r.Intn(4), false)
		for range 1 + r.Intn(api.MaxChances) {
			lengths := [][]api.Num{{"1"}, {"1/2", "1/2"}, {"0", "1/3", "2/3"}, {"3/10", "0", "2/5", "3/10"}}
			m.chances = append(m.chances, api.Chance{Lengths: lengths[r.Intn(len(lengths))], Weight: r.Intn(9)})
		}
		m.brand = sampleBrand(r)
		m.code = sampleCode(r)
		m.story = sampleStory(r)
		list = append(list, m)
	}
	return list
}

func sampleMarket(r *rand.Rand) ([]int, [][]int) {
	n := 1 + r.Intn(5)
	cash, debts := make([]int, n), make([][]int, n)
	for i := range n {
		cash[i] = r.Intn(4)
		debts[i] = make([]int, n)
		for j := range n {
			if j != i && r.Intn(3) > 0 {
				debts[i][j] = r.Intn(12)
			}
		}
	}
	return cash, debts
}

func sampleCut(t *testing.T, r *rand.Rand) []api.Square {
	t.Helper()
	width := 1 + r.Intn(api.MaxFloor)
	code, e := hide.Fewest(width, 1+r.Intn(api.MaxFloor))
	if e != api.OK {
		t.Fatalf("Fewest: %d", e)
	}
	squares, e := hide.Lay(width, code)
	if e != api.OK {
		t.Fatalf("Lay: %d", e)
	}
	r.Shuffle(len(squares), func(i, j int) { squares[i], squares[j] = squares[j], squares[i] })
	return squares
}

// samplePairs returns pairs of different numbers below n, rising ones if they may not be in both orders.
func samplePairs(r *rand.Rand, n, many int, both bool) []api.Pair {
	var list []api.Pair
	for range many {
		if a, b := r.Intn(n), r.Intn(n); a < b || both && a != b {
			list = append(list, api.Pair{A: a, B: b})
		}
	}
	return list
}

// sampleDistances returns distances in a plane, or in a star, which fit a tree.
func sampleDistances(r *rand.Rand) [][]int {
	n, star := 1+r.Intn(6), r.Intn(2)
	x, y := r.Perm(12), r.Perm(12)
	rows := make([][]int, n)
	for i := range n {
		for j := range n {
			d := max(x[i], x[j]) - min(x[i], x[j]) + (1-star)*(max(y[i], y[j])-min(y[i], y[j]))
			if star == 1 && i != j {
				d = x[i] + x[j] + 1
			}
			rows[i] = append(rows[i], d)
		}
	}
	return rows
}

func sampleBrand(r *rand.Rand) api.Brand {
	states, letters := 1+r.Intn(4), 1+r.Intn(2)
	var b api.Brand
	for range states {
		row := make([]int, letters)
		for i := range row {
			row[i] = r.Intn(states)
		}
		b.Next, b.Good = append(b.Next, row), append(b.Good, r.Intn(2) == 0)
	}
	return b
}

func sampleCode(r *rand.Rand) []string {
	var code []string
	for range 1 + r.Intn(4) {
		word := ""
		for range 1 + r.Intn(3) {
			word += []string{"0", "1"}[r.Intn(2)]
		}
		if !slices.Contains(code, word) {
			code = append(code, word)
		}
	}
	return code
}

func sampleStory(r *rand.Rand) api.Story {
	hands := 1 + r.Intn(3)
	s := api.Story{}
	for range hands {
		s.Deeds = append(s.Deeds, 1+r.Intn(3))
	}
	for _, pair := range samplePairs(r, hands, r.Intn(4), true) {
		sent := 1 + r.Intn(s.Deeds[pair.A])
		s.Notes = append(s.Notes, api.Note{From: pair.A, Sent: sent, To: pair.B, Received: min(sent+1, s.Deeds[pair.B])})
	}
	return s
}
