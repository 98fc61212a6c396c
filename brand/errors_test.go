package brand

import (
	"fmt"
	"math"
	"math/rand"
	"slices"
	"strings"
	"testing"

	"pommel/api"
)

// found are the results of all functions, for any arguments.
type found struct {
	accepts                       bool
	small                         api.Brand
	differ, element, group, reset string
	count                         int
	simple, short                 [2]string
	monoid, idempotents           []string
	left, right, classes          [][]string
	errors                        [13]api.Errno
}

// Where the errors of some functions are.
const (
	acceptsError = 0
	differError  = 2
	elementError = 4
	shortError   = 11
	resetError   = 12
)

func allFound(b, c api.Brand, word string, k int) found {
	var x found
	e := &x.errors
	x.accepts, e[0] = Accepts(b, word)
	x.small, e[1] = Smallest(b)
	x.differ, e[2] = Differ(b, c)
	x.monoid, e[3] = Monoid(b)
	x.element, e[4] = Element(b, word)
	x.idempotents, e[5] = Idempotents(b)
	x.left, e[6] = Left(b)
	x.right, e[7] = Right(b)
	x.classes, e[8] = Classes(b)
	x.group, x.count, e[9] = Groups(b)
	x.simple[0], x.simple[1], e[10] = Simple(b)
	x.short[0], x.short[1], e[11] = Short(b, k)
	x.reset, e[12] = Reset(b)
	return x
}

// checkZero checks that what comes with an error is a zero value (R3).
func (x found) checkZero(t *testing.T) {
	t.Helper()
	accepts := 0
	if x.accepts {
		accepts = 1
	}
	rests := []int{accepts, len(x.small.Next) + len(x.small.Good), len(x.differ), len(x.monoid), len(x.element), len(x.idempotents), len(x.left), len(x.right), len(x.classes),
		len(x.group) + x.count, len(x.simple[0] + x.simple[1]), len(x.short[0] + x.short[1]), len(x.reset)}
	for i, rest := range rests {
		if x.errors[i] != api.OK && rest != 0 {
			t.Errorf("function %d: %v", i, x)
		}
	}
}

// spoil writes over all memory of the results, also beyond the ends of the slices.
func (x found) spoil() {
	for _, row := range x.small.Next {
		clear(row[:cap(row)])
	}
	clear(x.small.Next[:cap(x.small.Next)])
	clear(x.small.Good[:cap(x.small.Good)])
	for _, words := range slices.Concat(x.left, x.right, x.classes, [][]string{x.monoid, x.idempotents}) {
		clear(words[:cap(words)])
	}
	for _, classes := range [][][]string{x.left, x.right, x.classes} {
		clear(classes[:cap(classes)])
	}
}

// checkAllArg checks that each function answers ErrArg, whatever else is wrong, and Differ also with the arguments changed.
func checkAllArg(t *testing.T, b api.Brand) {
	t.Helper()
	good := every(1, true)
	if len(b.Next) > 0 && len(b.Next[0]) > 0 && len(b.Next[0]) < 4 {
		good = every(len(b.Next[0]), true)
	}
	for _, word := range []string{"", "a", "d", "\x00", strings.Repeat("a", api.MaxWord+1), strings.Repeat("d", api.MaxWord+1)} {
		for _, k := range []int{0, 1, -1, 4} {
			x := allFound(b, good, word, k)
			x.checkZero(t)
			for i, e := range x.errors {
				if e != api.ErrArg {
					t.Errorf("%v, %q, %d: function %d: %d", b, word, k, i, e)
				}
			}
		}
	}
	for _, c := range []api.Brand{b, good, even()} {
		if word, e := Differ(c, b); e != api.ErrArg || word != "" {
			t.Errorf("Differ of %v, %v = %q, %d", c, b, word, e)
		}
	}
}

func TestBrandErrors(t *testing.T) {
	for _, b := range []api.Brand{
		{}, {Next: [][]int{}, Good: []bool{}}, {Good: []bool{true}}, {Next: [][]int{{0}}}, {Next: [][]int{{0}}, Good: []bool{}}, // no state, or no Good
		brandOf("11", "0"), brandOf("1", "1", "0"), brandOf("101", "1", "0"), brandOf("1010101", "1", "2", "3", "4", "5", "0"),
		{Next: [][]int{{}}, Good: []bool{true}}, {Next: [][]int{nil}, Good: []bool{true}}, {Next: [][]int{{}, {}}, Good: []bool{true, false}}, // no letter
		brandOf("1", "0000"), brandOf("10", "0000", "1111"), brandOf("1", strings.Repeat("0", 1000)), // too many letters
		brandOf("10", "01", "0"), brandOf("10", "0", "01"), brandOf("10", "01", "011"), brandOf("10", "01", ""), brandOf("10", "", "01"), brandOf("100", "01", "01", "0"),
		brandOf("1", "1"), brandOf("10", "2", "0"), brandOf("10", "1", "2"), brandOf("10", "11", "02"), brandOf("100000", "1", "2", "3", "4", "5", "6"), // no such state
		{Next: [][]int{{-1}}, Good: []bool{true}}, {Next: [][]int{{0}, {-1}}, Good: []bool{true, true}}, {Next: [][]int{{math.MaxInt}}, Good: []bool{true}},
		{Next: [][]int{{math.MinInt}}, Good: []bool{true}}, {Next: [][]int{{1 << 32}}, Good: []bool{true}}, {Next: [][]int{{0, 0, -1}}, Good: []bool{false}},
		brandOf("1000000", "1", "2", "3", "4", "5", "6", "0"), brandOf("1111111", "0", "0", "0", "0", "0", "0", "0"), // one state too many
		{Next: slices.Repeat([][]int{{0}}, 1000), Good: make([]bool, 1000)}, {Next: slices.Repeat([][]int{{0}}, 64), Good: make([]bool, 64)},
	} {
		checkAllArg(t, b)
	}
	// the greatest brands
	for signs := 1; signs <= api.MaxSigns; signs++ {
		for n := 1; n <= api.MaxStates; n++ {
			b := api.Brand{Next: slices.Repeat([][]int{slices.Repeat([]int{n - 1}, signs)}, n), Good: make([]bool, n)}
			x := allFound(b, b, "", 1)
			want := [13]api.Errno{differError: api.ErrNone, 9: api.ErrNone, 10: api.ErrNone, 11: api.ErrNone}
			if x.errors != want {
				t.Errorf("%v: errors %v, want %v", b, x.errors, want)
			}
		}
	}
}

func TestLetterErrors(t *testing.T) {
	for _, c := range [][2]api.Brand{
		{every(1, true), every(2, true)}, {every(1, true), every(3, true)}, {every(2, true), every(3, false)}, {even(), someA()}, {abAgain(), even()},
		{brandOf("001", "012", "120", "201"), abAgain()},
	} {
		for _, pair := range [][2]api.Brand{c, {c[1], c[0]}} {
			if word, e := Differ(pair[0], pair[1]); e != api.ErrArg || word != "" {
				t.Errorf("Differ of %v, %v = %q, %d", pair[0], pair[1], word, e)
			}
		}
	}
}

func TestWordErrors(t *testing.T) {
	for _, c := range []struct {
		signs int
		word  string
		want  api.Errno
	}{
		{1, "", api.OK},
		{1, "a", api.OK},
		{1, "b", api.ErrForm},
		{1, "c", api.ErrForm},
		{1, "`", api.ErrForm}, // the byte before a
		{1, "A", api.ErrForm},
		{1, "aab", api.ErrForm},
		{1, "baa", api.ErrForm},
		{1, "a a", api.ErrForm},
		{2, "abba", api.OK},
		{2, "abc", api.ErrForm},
		{2, "c", api.ErrForm},
		{3, "abc", api.OK},
		{3, "d", api.ErrForm},
		{3, "abcd", api.ErrForm},
		{3, "\x00", api.ErrForm},
		{3, "\xff", api.ErrForm},
		{3, "\xe1", api.ErrForm},
		{3, "aä", api.ErrForm},
		{3, "ａ", api.ErrForm},
		{3, " ", api.ErrForm},
		{3, "0", api.ErrForm},
		{1, strings.Repeat("a", api.MaxWord), api.OK},
		{1, strings.Repeat("a", api.MaxWord+1), api.ErrLong},
		{1, strings.Repeat("b", api.MaxWord), api.ErrForm},
		{1, strings.Repeat("b", api.MaxWord+1), api.ErrLong}, // R2
		{3, strings.Repeat("abc", 66) + "ab", api.OK},
		{3, strings.Repeat("abc", 66) + "ad", api.ErrForm},
		{3, strings.Repeat("abc", 66) + "abc", api.ErrLong},
		{3, strings.Repeat("ä", 100), api.ErrForm},
		{3, strings.Repeat("ä", 101), api.ErrLong}, // its letters are bytes
		{2, strings.Repeat("a", 100000), api.ErrLong},
	} {
		b := every(c.signs, true)
		ok, e := Accepts(b, c.word)
		element, f := Element(b, c.word)
		if e != c.want || f != c.want || ok != (c.want == api.OK) || element != "" {
			t.Errorf("%d letters, %q: %t, %d; %q, %d; want %d", c.signs, c.word, ok, e, element, f, c.want)
		}
	}
}

func TestShortErrors(t *testing.T) {
	for _, b := range []api.Brand{every(1, true), every(3, false), even(), abAgain(), all400()[0], all401()[1]} {
		for _, k := range []int{-1, 4, 5, -4, math.MaxInt, math.MinInt, 1 << 32, 64} {
			if first, second, e := Short(b, k); e != api.ErrArg || first != "" || second != "" {
				t.Errorf("Short of %v, %d = %q, %q, %d", b, k, first, second, e)
			}
		}
		for k := range 3 {
			if _, _, e := Short(b, k); e != api.OK && e != api.ErrNone {
				t.Errorf("Short of %v, %d: %d", b, k, e)
			}
		}
	}
}

// someCase returns arguments of which each may be valid or not.
func someCase(r *rand.Rand) (api.Brand, api.Brand, string, int) {
	b := someBrand(r, 1+r.Intn(4), 1+r.Intn(api.MaxSigns))
	c, word, k := someBrand(r, 1+r.Intn(4), 1+r.Intn(api.MaxSigns)), someWord(r, 1+r.Intn(api.MaxSigns), r.Intn(9)), r.Intn(3)
	if r.Intn(2) == 0 {
		c = renamed(r, b)
	}
	switch r.Intn(9) {
	case 0:
		b.Next[r.Intn(len(b.Next))][0] = r.Intn(7) - 1
	case 1:
		c.Good = c.Good[1:]
	case 2:
		word = strings.Repeat("a", api.MaxWord+r.Intn(2))
	case 3:
		k = r.Intn(6) - 1
	}
	return b, c, word, k
}

// roomy returns a copy that lies in a longer array, with other values behind its end.
func roomy[T any](list []T, others ...T) []T {
	return slices.Concat(list, others)[:len(list)]
}

func roomyBrand(b api.Brand) api.Brand {
	out := api.Brand{Next: roomy(b.Next, []int{0}, []int{-9}), Good: roomy(b.Good, true, true)}
	for i, row := range out.Next {
		out.Next[i] = roomy(row, 0, -9)
	}
	return out
}

// text writes a brand with what lies behind the ends of its slices.
func text(b api.Brand) string {
	out := fmt.Sprint(b.Next[:cap(b.Next)], b.Good[:cap(b.Good)])
	for _, row := range b.Next {
		out += fmt.Sprint(row[:cap(row)])
	}
	return out
}

func wipe(b api.Brand) {
	for _, row := range b.Next {
		clear(row)
	}
	clear(b.Next)
	clear(b.Good)
}

func copied(b api.Brand) api.Brand {
	out := api.Brand{Good: slices.Clone(b.Good)}
	for _, row := range b.Next {
		out.Next = append(out.Next, slices.Clone(row))
	}
	return out
}

// TestArguments: R1, R3, R4, R5, R6 and P6, for arguments of which many are not valid.
func TestArguments(t *testing.T) {
	r := rand.New(rand.NewSource(10))
	for range 500 {
		p, q, word, k := someCase(r)
		b, c := roomyBrand(p), roomyBrand(q)
		kept := text(b) + text(c)
		x := allFound(b, c, word, k)
		x.checkZero(t)
		old := quoted(x)
		x.spoil()
		allFound(someCase(r))
		if text(b)+text(c) != kept {
			t.Fatalf("%v, %v, %q, %d: arguments are changed", p, q, word, k)
		}
		again := allFound(copied(p), copied(q), word, k)
		wipe(b)
		wipe(c)
		if quoted(again) != old {
			t.Fatalf("%v, %v, %q, %d: results share memory or differ", p, q, word, k)
		}
	}
	if !same(allFound(api.Brand{}, even(), "", 0), allFound(api.Brand{Next: [][]int{}, Good: []bool{}}, even(), "", 0)) {
		t.Error("nil and empty brands differ")
	}
}

// TestNewMemory: R5: the slices of a result share no memory, with one another or with the argument.
func TestNewMemory(t *testing.T) {
	b := abAgain()
	small := smallestOf(t, b)
	for i, row := range small.Next {
		_ = append(row, 9)
		row[0], row[1] = 7+i, 7+i
	}
	clear(small.Good)
	if want := "[[7 7] [8 8] [9 9]]"; fmt.Sprint(small.Next) != want || !sameBrand(b, abAgain()) {
		t.Errorf("Smallest: %v, of %v", small, b)
	}
	for _, of := range []func(api.Brand) ([][]string, api.Errno){Left, Right, Classes} {
		classes := classesOf(t, of, b)
		for i, class := range classes {
			_ = append(class, "x")
			class[0] = strings.Repeat("y", i+1)
		}
		for i, class := range classes {
			if class[0] != strings.Repeat("y", i+1) || slices.Contains(class, "x") {
				t.Errorf("classes: %q", classes)
			}
		}
	}
}
