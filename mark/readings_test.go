package mark

import (
	"math/big"
	"math/rand"
	"slices"
	"strings"
	"testing"

	"pommel/api"
)

// checkReadings checks Readings and Read of a message, of which the words must write the first reading.
func checkReadings(t *testing.T, words []string, text string) {
	t.Helper()
	count, e := Readings(words, text)
	if want := countOf(words, text).String(); string(count) != want || e != api.OK {
		t.Errorf("Readings(%q, %q) = %s, %d, want %s", words, text, count, e, want)
	}
	reading, f := Read(words, text)
	if count == "0" {
		if f != api.ErrNone || len(reading) != 0 {
			t.Errorf("Read(%q, %q) = %v, %d", words, text, reading, f)
		}
		return
	}
	if f != api.OK || writtenBy(words, reading) != text {
		t.Errorf("Read(%q, %q) = %v, %d", words, text, reading, f)
		return
	}
	rest := text
	for _, i := range reading { // a reading that is less has a lesser word where they differ first
		for less, word := range words[:i] {
			if after, ok := strings.CutPrefix(rest, word); ok && countOf(words, after).Sign() > 0 {
				t.Errorf("Read(%q, %q) = %v, but %d could come before the rest %q", words, text, reading, less, after)
			}
		}
		rest = rest[len(words[i]):]
	}
}

func TestRead(t *testing.T) {
	for _, c := range []struct {
		words, text string
		count       api.Num
		want        []int
	}{
		{"0 01 10", "010", "2", []int{0, 2}},
		{"01 10 0", "010", "2", []int{0, 2}},
		{"01 0 10", "010", "2", []int{0, 1}},
		{"10 01 0", "010", "2", []int{1, 2}},
		{"0", "", "1", nil},
		{"0 1", "", "1", nil},
		{"0", "0", "1", []int{0}},
		{"0", "1", "0", nil},
		{"0", "000", "1", []int{0, 0, 0}},
		{"0", "0001", "0", nil},
		{"0", "1000", "0", nil},
		{"1111111111", "111111111", "0", nil},
		{"1111111111", "1111111111", "1", []int{0}},
		{"0 00", "00", "2", []int{0, 0}},
		{"00 0", "00", "2", []int{0}},
		{"00 0", "000", "3", []int{0, 1}},
		{"00 0", "0000", "5", []int{0, 0}},
		{"00 000", "0", "0", nil},
		{"00 000", "000", "1", []int{1}}, // the first word begins it, but not a reading
		{"000 00", "0000", "1", []int{1, 1}},
		{"000 00", "00000", "2", []int{0, 1}},
		{"0 1 00 11", "0011", "4", []int{0, 0, 1, 1}},
		{"11 00 1 0", "0011", "4", []int{1, 0}},
		{"11 001 0 1", "0011", "3", []int{1, 3}},
		{"0 01 011 0111 01111", "011110", "1", []int{4, 0}},
		{"0 01 1", "01", "2", []int{0, 2}},
		{"0 01 1 10", "0110", "4", []int{0, 2, 2, 0}},
	} {
		words := strings.Fields(c.words)
		count, e := Readings(words, c.text)
		reading, f := Read(words, c.text)
		if count != c.count || e != api.OK || !slices.Equal(reading, c.want) || (f == api.ErrNone) != (c.count == "0") || f != api.OK && f != api.ErrNone {
			t.Errorf("%q, %q: %s, %d; %v, %d; want %s, %v", words, c.text, count, e, reading, f, c.count, c.want)
		}
		checkReadings(t, words, c.text)
	}
}

// TestAllReadings: P1 and P3 by writing down all readings.
func TestAllReadings(t *testing.T) {
	texts := append(stringsUpTo(6), "")
	r := rand.New(rand.NewSource(12))
	codes := slices.Collect(eachCode(2, stringsUpTo(3)))
	for range 100 {
		codes = append(codes, someCode(r, api.MaxMarked, 4))
	}
	for _, words := range codes {
		for _, text := range texts {
			all := allReadings(words, text)
			count, e := Readings(words, text)
			if e != api.OK || string(count) != big.NewInt(int64(len(all))).String() {
				t.Fatalf("Readings(%q, %q) = %s, %d, want %d", words, text, count, e, len(all))
			}
			reading, f := Read(words, text)
			if len(all) == 0 && f != api.ErrNone || len(all) > 0 && (f != api.OK || !slices.Equal(reading, slices.MinFunc(all, slices.Compare))) {
				t.Fatalf("Read(%q, %q) = %v, %d, of %v", words, text, reading, f, all)
			}
		}
	}
}

// TestLongMessages: messages of up to MaxText letters, with numbers of readings that no integer type can hold.
func TestLongMessages(t *testing.T) {
	long := strings.Repeat("0", api.MaxText)
	fibonacci, next := big.NewInt(1), big.NewInt(1) // of 0 and of 1 zeros, by the words 0 and 00
	for range api.MaxText {
		fibonacci, next = next, fibonacci.Add(fibonacci, next)
	}
	if count, e := Readings([]string{"0", "00"}, long); e != api.OK || string(count) != fibonacci.String() || len(count) != 42 {
		t.Errorf("Readings = %s, %d, want %s", count, e, fibonacci)
	}
	r := rand.New(rand.NewSource(13))
	all := append(zeros(api.MaxBits), "1", "01")
	for range 20 {
		r.Shuffle(len(all), func(i, j int) { all[i], all[j] = all[j], all[i] })
		checkReadings(t, all, long)
		checkReadings(t, all, long[:api.MaxText-1]+"1")
		checkReadings(t, all, someText(r, api.MaxText))
		checkReadings(t, []string{"00", "000"}, long[r.Intn(9):])
	}
	if reading, e := Read([]string{"1", "0"}, long); e != api.OK || !slices.Equal(reading, slices.Repeat([]int{1}, api.MaxText)) {
		t.Errorf("Read = %v, %d", reading, e)
	}
	if reading, e := Read([]string{"00", "000"}, long[1:]); e != api.OK || !slices.Equal(reading, append(slices.Repeat([]int{0}, 98), 1)) {
		t.Errorf("Read = %v, %d", reading, e)
	}
	if reading, e := Read([]string{"00", "1"}, long[1:]); e != api.ErrNone || len(reading) != 0 {
		t.Errorf("Read = %v, %d", reading, e)
	}
	for range 300 {
		words := someCode(r, api.MaxMarked, 6)
		var reading []int
		for {
			i := r.Intn(len(words))
			if len(writtenBy(words, reading))+len(words[i]) > api.MaxText {
				break
			}
			reading = append(reading, i)
		}
		checkReadings(t, words, writtenBy(words, reading))
	}
}

// TestC5: the one reading of a message that a clear code's words write; the readings of two messages.
func TestC5(t *testing.T) {
	r := rand.New(rand.NewSource(14))
	codes := clearCodes()
	for range 200 {
		words := somePlain(t, r)
		codes = append(codes, words, allReversed(words))
	}
	for _, words := range codes {
		var reading []int
		for range r.Intn(api.MaxText/api.MaxBits + 1) {
			reading = append(reading, r.Intn(len(words)))
		}
		text := writtenBy(words, reading)
		count, e := Readings(words, text)
		got, f := Read(words, text)
		if count != "1" || e != api.OK || f != api.OK || !slices.Equal(got, reading) {
			t.Errorf("%q, %v: %s, %d; %v, %d", words, reading, count, e, got, f)
		}
	}
	more := 0
	for range 2000 {
		words := someCode(r, 6, 4)
		a, b := someText(r, r.Intn(14)), someText(r, r.Intn(14))
		product := new(big.Int).Mul(numberOf(t, words, a), numberOf(t, words, b))
		switch product.Cmp(numberOf(t, words, a+b)) {
		case 1:
			t.Errorf("%q: more readings of %q, followed by %q, than of both written together", words, a, b)
		case -1:
			more++
		}
	}
	if more < 100 {
		t.Errorf("only %d times a word lies in both messages", more)
	}
}

// numberOf returns what Readings returns as a number.
func numberOf(t *testing.T, words []string, text string) *big.Int {
	t.Helper()
	count, e := Readings(words, text)
	n, ok := new(big.Int).SetString(string(count), 10)
	if e != api.OK || !ok {
		t.Fatalf("Readings(%q, %q) = %q, %d", words, text, count, e)
	}
	return n
}
