package mark

import (
	"fmt"
	"math"
	"math/rand"
	"slices"
	"strings"
	"testing"

	"pommel/api"
)

// found are the results of all functions, for any arguments.
type found struct {
	kraft, readings       api.Num
	plain, rising         []string
	huffman, tucker       []int
	leastCost, tuckerCost int
	pair, reading         []int
	clear                 string
	errors                [9]api.Errno
}

// Where the errors of some functions are.
const (
	kraftError    = 0
	risingError   = 2
	huffmanError  = 3
	tuckerError   = 4
	pairError     = 5
	clearError    = 6
	readingsError = 7
	readError     = 8
)

// allFound calls each function: those of lengths and those of weights with the same numbers.
func allFound(numbers []int, words []string, text string) found {
	var x found
	e := &x.errors
	x.kraft, e[kraftError] = Kraft(numbers)
	x.plain, e[1] = Plain(numbers)
	x.rising, e[risingError] = Rising(numbers)
	x.huffman, x.leastCost, e[huffmanError] = Huffman(numbers)
	x.tucker, x.tuckerCost, e[tuckerError] = Tucker(numbers)
	x.pair, e[pairError] = IsPlain(words)
	x.clear, e[clearError] = Clear(words)
	x.readings, e[readingsError] = Readings(words, text)
	x.reading, e[readError] = Read(words, text)
	return x
}

// checkZero checks that what comes with an error is a zero value (R3).
func (x found) checkZero(t *testing.T) {
	t.Helper()
	rests := [9]int{len(x.kraft), len(x.plain), len(x.rising), len(x.huffman) + x.leastCost, len(x.tucker) + x.tuckerCost, len(x.pair), len(x.clear), len(x.readings), len(x.reading)}
	for i, rest := range rests {
		if x.errors[i] != api.OK && rest != 0 {
			t.Errorf("function %d: %v", i, x)
		}
	}
}

// spoil writes over all memory of the results, also beyond the ends of the slices.
func (x found) spoil() {
	for _, list := range [][]int{x.huffman, x.tucker, x.pair, x.reading} {
		clear(list[:cap(list)])
	}
	for _, list := range [][]string{x.plain, x.rising} {
		clear(list[:cap(list)])
	}
}

// checkErrors checks the errors of the functions from one to another one; ErrNone is as good as OK, as other tests check it.
func (x found) checkErrors(t *testing.T, what string, from, to int, want api.Errno) {
	t.Helper()
	x.checkZero(t)
	for i := from; i <= to; i++ {
		got := x.errors[i]
		if got == api.ErrNone {
			got = api.OK
		}
		if got != want {
			t.Errorf("%s: function %d: %d, want %d", what, i, x.errors[i], want)
		}
	}
}

func TestLengthErrors(t *testing.T) {
	for _, c := range []struct {
		lengths []int
		want    api.Errno
	}{
		{nil, api.ErrArg},
		{[]int{}, api.ErrArg},
		{[]int{1}, api.OK},
		{[]int{api.MaxBits}, api.OK},
		{[]int{0}, api.ErrArg},
		{[]int{-1}, api.ErrArg},
		{[]int{api.MaxBits + 1}, api.ErrArg},
		{[]int{math.MaxInt}, api.ErrArg},
		{[]int{math.MinInt}, api.ErrArg},
		{[]int{1<<32 + 1}, api.ErrArg},
		{[]int{257}, api.ErrArg},
		{[]int{0, 1, 1, 1}, api.ErrArg}, // before ErrNone
		{[]int{1, 1, 1, api.MaxBits + 1}, api.ErrArg},
		{[]int{1, 1, 1, 0}, api.ErrArg},
		{[]int{2, 1, 0, 2}, api.ErrArg},
		{slices.Repeat([]int{5}, api.MaxMarked), api.OK},
		{slices.Repeat([]int{1}, api.MaxMarked), api.OK},
		{slices.Repeat([]int{5}, api.MaxMarked+1), api.ErrLong},
		{slices.Repeat([]int{0}, api.MaxMarked), api.ErrArg},
		{slices.Repeat([]int{0}, api.MaxMarked+1), api.ErrLong}, // R2
		{slices.Repeat([]int{api.MaxBits + 1}, api.MaxMarked+1), api.ErrLong},
		{make([]int, 100000), api.ErrLong},
	} {
		allFound(c.lengths, nil, "").checkErrors(t, fmt.Sprint(c.lengths), kraftError, risingError, c.want)
	}
	if _, e := Kraft(slices.Repeat([]int{1}, api.MaxMarked)); e != api.OK {
		t.Errorf("Kraft above 1: %d", e)
	}
}

func TestWeightErrors(t *testing.T) {
	for _, c := range []struct {
		weights []int
		want    api.Errno
	}{
		{nil, api.ErrArg},
		{[]int{}, api.ErrArg},
		{[]int{1}, api.ErrArg},
		{[]int{0}, api.ErrArg},
		{[]int{-1}, api.ErrArg},
		{[]int{1, 1}, api.OK},
		{[]int{0, 0}, api.OK},
		{[]int{0, api.MaxWeight}, api.OK},
		{[]int{api.MaxWeight, 0, api.MaxWeight}, api.OK},
		{[]int{0, api.MaxWeight + 1}, api.ErrArg},
		{[]int{api.MaxWeight + 1, 1}, api.ErrArg},
		{[]int{-1, 1}, api.ErrArg},
		{[]int{1, -1}, api.ErrArg},
		{[]int{1, 2, 3, -4}, api.ErrArg},
		{[]int{1, math.MaxInt}, api.ErrArg},
		{[]int{1, math.MinInt}, api.ErrArg},
		{[]int{1, 1 << 32}, api.ErrArg},
		{slices.Repeat([]int{api.MaxWeight}, api.MaxMarked), api.OK},
		{slices.Repeat([]int{0}, api.MaxMarked), api.OK},
		{slices.Repeat([]int{0}, api.MaxMarked+1), api.ErrLong},
		{slices.Repeat([]int{-1}, api.MaxMarked), api.ErrArg},
		{slices.Repeat([]int{-1}, api.MaxMarked+1), api.ErrLong}, // R2
		{make([]int, 100000), api.ErrLong},
	} {
		x := allFound(c.weights, nil, "")
		x.checkErrors(t, fmt.Sprint(c.weights), huffmanError, tuckerError, c.want)
		if x.errors[huffmanError] != c.want || x.errors[tuckerError] != c.want {
			t.Errorf("%v: %d, want %d", c.weights, x.errors, c.want)
		}
	}
}

func TestWordErrors(t *testing.T) {
	twelve := stringsOf(4)[:api.MaxMarked]
	thirteen := stringsOf(4)[:api.MaxMarked+1]
	ten := strings.Repeat("01", api.MaxBits/2)
	for _, c := range []struct {
		words []string
		want  api.Errno
	}{
		{nil, api.ErrForm},
		{[]string{}, api.ErrForm},
		{[]string{"0"}, api.OK},
		{[]string{"1"}, api.OK},
		{[]string{""}, api.ErrForm},
		{[]string{"0", ""}, api.ErrForm},
		{[]string{"", "0"}, api.ErrForm},
		{[]string{"0", "1", "0"}, api.ErrForm},
		{[]string{"0", "0"}, api.ErrForm},
		{[]string{"00", "0", "1", "0"}, api.ErrForm},
		{[]string{"0", "00"}, api.OK},
		{[]string{"2"}, api.ErrForm},
		{[]string{"/"}, api.ErrForm}, // the byte before 0
		{[]string{"0", "1", "02"}, api.ErrForm},
		{[]string{"0", "1", "20"}, api.ErrForm},
		{[]string{"0", "1", "020"}, api.ErrForm},
		{[]string{"01 "}, api.ErrForm},
		{[]string{" 01"}, api.ErrForm},
		{[]string{"0 1"}, api.ErrForm},
		{[]string{"01\n"}, api.ErrForm},
		{[]string{"a"}, api.ErrForm},
		{[]string{"-"}, api.ErrForm},
		{[]string{"\x00"}, api.ErrForm},
		{[]string{"\x01"}, api.ErrForm},
		{[]string{"0\xff1"}, api.ErrForm},
		{[]string{"0\xb0"}, api.ErrForm}, // the letter 0 with the highest bit set
		{[]string{"０"}, api.ErrForm},
		{[]string{"0１1"}, api.ErrForm},
		{[]string{ten}, api.OK},
		{[]string{ten + "0"}, api.ErrForm},
		{[]string{"0", ten + "1"}, api.ErrForm},
		{[]string{strings.Repeat("0", 100000)}, api.ErrForm},
		{twelve, api.OK},
		{thirteen, api.ErrLong},
		{append(slices.Clone(twelve[1:]), "0001"), api.ErrForm},
		{append(slices.Clone(twelve), "0000"), api.ErrLong}, // R2
		{append(slices.Clone(twelve), ""), api.ErrLong},
		{append(slices.Clone(twelve), "2"), api.ErrLong},
		{make([]string, api.MaxMarked), api.ErrForm},
		{make([]string, api.MaxMarked+1), api.ErrLong},
		{make([]string, 100000), api.ErrLong},
	} {
		for _, text := range []string{"", "0", "0101"} {
			allFound(nil, c.words, text).checkErrors(t, fmt.Sprintf("%q", c.words), pairError, readError, c.want)
		}
		allFound(nil, c.words, strings.Repeat("0", api.MaxText)).checkErrors(t, fmt.Sprintf("%q", c.words), pairError, readError, c.want)
		allFound(nil, c.words, strings.Repeat("0", api.MaxText+1)).checkErrors(t, fmt.Sprintf("%q, long", c.words), readingsError, readError, api.ErrLong) // R2
	}
}

func TestMessageErrors(t *testing.T) {
	long := strings.Repeat("01", api.MaxText/2)
	for _, c := range []struct {
		text string
		want api.Errno
	}{
		{"", api.OK},
		{"0", api.OK},
		{"2", api.ErrForm},
		{"/", api.ErrForm},
		{" ", api.ErrForm},
		{"01 ", api.ErrForm},
		{" 01", api.ErrForm},
		{"0 1", api.ErrForm},
		{"010x10", api.ErrForm},
		{"\n", api.ErrForm},
		{"0\n", api.ErrForm},
		{"\x00", api.ErrForm},
		{"\x01", api.ErrForm},
		{"0\xff", api.ErrForm},
		{"\xb0", api.ErrForm},
		{"０", api.ErrForm},
		{long, api.OK},
		{long[1:] + "2", api.ErrForm},
		{"2" + long[1:], api.ErrForm},
		{long + "0", api.ErrLong},
		{long + "2", api.ErrLong}, // R2
		{strings.Repeat("é", api.MaxText/2), api.ErrForm},
		{strings.Repeat("é", api.MaxText/2) + "0", api.ErrLong}, // its letters are bytes
		{strings.Repeat("0", 100000), api.ErrLong},
	} {
		for _, words := range [][]string{{"0", "1"}, {"01"}, {"0000000000"}} {
			x := allFound(nil, words, c.text)
			x.checkErrors(t, fmt.Sprintf("%q, %q", words, c.text), readingsError, readError, c.want)
			if x.errors[readingsError] != c.want {
				t.Errorf("Readings(%q, %q): %d", words, c.text, x.errors[readingsError])
			}
		}
		want := api.ErrForm
		if c.want == api.ErrLong {
			want = api.ErrLong
		}
		allFound(nil, []string{"0", "0"}, c.text).checkErrors(t, c.text, readingsError, readError, want)
		allFound(nil, nil, c.text).checkErrors(t, c.text, readingsError, readError, want)
		allFound(nil, make([]string, api.MaxMarked+1), c.text).checkErrors(t, c.text, readingsError, readError, api.ErrLong)
	}
}

// roomy returns a copy that lies in a longer array, with other values behind its end.
func roomy[T any](list []T, others ...T) []T {
	return slices.Concat(list, others)[:len(list)]
}

// someCase returns arguments of which each may be valid or not.
func someCase(r *rand.Rand) ([]int, []string, string) {
	numbers, words := someLengths(r, 2+r.Intn(api.MaxMarked-1)), someCode(r, 5, 4)
	text := writtenBy(words, []int{r.Intn(len(words)), 0, r.Intn(len(words)), 0})
	switch r.Intn(9) {
	case 0:
		numbers[r.Intn(len(numbers))] = r.Intn(14) - 1
	case 1:
		numbers = slices.Repeat([]int{7}, api.MaxMarked+r.Intn(2))
	case 2:
		words[r.Intn(len(words))] = []string{"", "0", "2", "00000000000"}[r.Intn(4)]
	case 3:
		words = slices.Repeat([]string{"1"}, api.MaxMarked+r.Intn(2))
	case 4:
		text = strings.Repeat("0", api.MaxText+r.Intn(2))
	case 5:
		text += "-"
	}
	return numbers, words, text
}

// TestArguments: R1, R3, R4, R5, R6 and P6, for arguments of which many are not valid.
func TestArguments(t *testing.T) {
	r := rand.New(rand.NewSource(15))
	for range 500 {
		p, q, text := someCase(r)
		numbers, words := roomy(p, -9, 1), roomy(q, "x", "0")
		kept := fmt.Sprintf("%v %q", numbers[:cap(numbers)], words[:cap(words)])
		x := allFound(numbers, words, text)
		x.checkZero(t)
		old := fmt.Sprintf("%q", []any{x})
		x.spoil()
		allFound(someCase(r))
		if now := fmt.Sprintf("%v %q", numbers[:cap(numbers)], words[:cap(words)]); now != kept {
			t.Fatalf("%v, %q, %q: arguments are changed to %s", p, q, text, now)
		}
		again := allFound(slices.Clone(p), slices.Clone(q), text)
		clear(numbers)
		clear(words)
		if fmt.Sprintf("%q", []any{again}) != old {
			t.Fatalf("%v, %q, %q: results share memory or differ", p, q, text)
		}
	}
	if fmt.Sprint(allFound(nil, nil, "")) != fmt.Sprint(allFound([]int{}, []string{}, "")) {
		t.Error("nil and empty lists differ")
	}
}
