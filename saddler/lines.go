package saddler

import (
	"slices"
	"strconv"
	"strings"

	"pommel/api"
	"pommel/exact"
)

// numberDigits is how many digits a number in a line may have.
const numberDigits = 9

// nothing is how the empty string is written, as a word must have a letter.
const nothing = "-"

// words are the words of a line after its first one.
type words []string

// reply does a line without a newline.
func (s *Saddler) reply(line string) string {
	switch {
	case len(line) > api.MaxLine:
		return refusal(api.ErrLong)
	case line == "" || line[0] == '#':
		return ""
	}
	if tried, ok := strings.CutPrefix(line, "try "); ok {
		return s.try(tried)
	}
	reply, e := s.do(strings.Split(line, " "))
	if e != api.OK {
		return refusal(e)
	}
	return reply
}

// try replies to a line without doing it.
func (s *Saddler) try(line string) string {
	if first, _, _ := strings.Cut(line, " "); line == "" || first == "try" {
		return refusal(api.ErrForm)
	}
	return s.Clone().reply(line)
}

// do does what a command says, if it has the words that it needs.
func (s *Saddler) do(line []string) (string, api.Errno) {
	if slices.Contains(line, "") { // between two blanks, or before or after all words
		return "", api.ErrForm
	}
	c, ok := find(line[0])
	if !ok {
		return "", api.ErrForm
	}
	w := words(line[1:])
	if !w.areOf(c.form) {
		return "", api.ErrForm
	}
	return c.do(s, w)
}

// areOf reports whether words are what a command takes.
func (w words) areOf(form string) bool {
	names := strings.Fields(form)
	if k := len(names) - 2; k >= 0 && names[k+1] == "..." {
		more := max(len(w)-k, 0) // words of the last name
		names = slices.Concat(names[:k], slices.Repeat(names[k:k+1], more))
	}
	return slices.EqualFunc(w, names, isOf)
}

// isOf reports whether a word may stand for a name of the table. A number is a Num, of few digits and without a slash, and a Num is a word: so the cases fall through.
func isOf(word, name string) bool {
	digits := api.MaxDigits
	switch name {
	default:
		if strings.Contains(word, "/") {
			return false
		}
		digits = numberDigits
		fallthrough
	case "NUM":
		if _, ok := exact.Read(api.Num(word), digits); !ok {
			return false
		}
		fallthrough
	case "WORD", "KEY", "STRING":
		return true
	}
}

// number returns the number that a word is.
func (w words) number(i int) int {
	n, _ := strconv.Atoi(w[i]) // it was checked when the line was read
	return n
}

// numbers returns the numbers that the words are from one on.
func (w words) numbers(from int) []int {
	var list []int
	for i := from; i < len(w); i++ {
		list = append(list, w.number(i))
	}
	return list
}

// nums returns the Nums that the words are from one on, not as parts of the line.
func (w words) nums(from int) []api.Num {
	var list []api.Num
	for _, word := range w[from:] {
		list = append(list, api.Num(strings.Clone(word)))
	}
	return list
}

// text returns the string that a word stands for, not as a part of the line.
func (w words) text(i int) string {
	if w[i] == nothing {
		return ""
	}
	return strings.Clone(w[i])
}

// refusal returns the reply that is an error.
func refusal(e api.Errno) string {
	return numberLine("!", int(e))
}

// numberLine returns a line of a word and numbers.
func numberLine(first string, numbers ...int) string {
	line := []byte(first)
	for _, n := range numbers {
		line = append(line, ' ')
		line = strconv.AppendInt(line, int64(n), 10)
	}
	return string(append(line, '\n'))
}

// textLine returns a line of a word and strings.
func textLine[T ~string](first string, texts ...T) string {
	line := []byte(first)
	for _, text := range texts {
		line = append(line, ' ')
		line = append(line, written(string(text))...)
	}
	return string(append(line, '\n'))
}

// written returns a string as a word.
func written(text string) string {
	if text == "" {
		return nothing
	}
	return text
}

// answer returns the line that says yes or no.
func answer(yes bool) string {
	if yes {
		return "yes\n"
	}
	return "no\n"
}

// each returns what is written for each element of a list.
func each[T any](list []T, write func(T) string) string {
	var text strings.Builder
	for _, x := range list {
		text.WriteString(write(x))
	}
	return text.String()
}

// rowLines returns a line for each row, all with the same first word.
func rowLines(first string, rows [][]int) string {
	return each(rows, func(row []int) string { return numberLine(first, row...) })
}

// firstError returns the first error, if there is one.
func firstError(errors ...api.Errno) api.Errno {
	for _, e := range errors {
		if e != api.OK {
			return e
		}
	}
	return api.OK
}

// added returns a list with one element more, or as it was if it would have more than most.
func added[T any](list []T, most int, more T) ([]T, api.Errno) {
	if len(list) >= most {
		return list, api.ErrFull
	}
	return append(list, more), api.OK
}
