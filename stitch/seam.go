package stitch

import (
	"iter"
	"slices"

	"pommel/api"
)

// letters yields the place and the number of each letter of a seam; the number of a byte that is no letter is out of range.
func letters(seam string) iter.Seq2[int, int] {
	return func(yield func(int, int) bool) {
		for i := range len(seam) {
			if !yield(i, int(seam[i])-'a') {
				return
			}
		}
	}
}

// without returns a seam without the letter at a place.
func without(seam string, at int) string {
	return seam[:at] + seam[at+1:]
}

// front returns where the letter of that number is that can be made first, or -1 if there is none.
func (t threads) front(seam string, first int) int {
	for i, letter := range letters(seam) {
		if letter == first {
			return i
		}
		if !t.commute[letter][first] {
			break
		}
	}
	return -1
}

// least returns the least equal seam: each letter is the least one that can be made next.
func (t threads) least(seam string) string {
	var out []byte
	for letter := 0; letter < t.count; {
		at := t.front(seam, letter)
		if at < 0 {
			letter++
			continue
		}
		out = append(out, seam[at])
		seam = without(seam, at)
		letter = 0
	}
	return string(out)
}

// heights returns, for each letter, one more than the greatest height of those before it that it does not commute with.
func (t threads) heights(seam string) []int {
	var last [api.MaxLetters]int // the height of the last one of each letter, which is its greatest one
	var list []int
	for _, letter := range letters(seam) {
		height := 1
		for other := range t.count {
			if !t.commute[letter][other] {
				height = max(height, last[other]+1)
			}
		}
		last[letter] = height
		list = append(list, height)
	}
	return list
}

func (t threads) steps(seam string) []string {
	var sets [][]byte
	for i, height := range t.heights(seam) {
		if height > len(sets) { // by 1: what makes it that high has the height before
			sets = append(sets, nil)
		}
		sets[height-1] = append(sets[height-1], seam[i])
	}
	var steps []string
	for _, set := range sets {
		slices.Sort(set)
		steps = append(steps, string(set))
	}
	return steps
}

// ways returns how many seams are equal, by what each can begin with. Known are the ways of seams that were met before:
// they are what is left of one seam, so they are few.
func (t threads) ways(seam string, known map[string]int) int {
	if seam == "" {
		return 1
	}
	if count, ok := known[seam]; ok {
		return count
	}
	count := 0
	for letter := range t.count {
		if at := t.front(seam, letter); at >= 0 {
			count += t.ways(without(seam, at), known)
		}
	}
	known[seam] = count
	return count
}

// rest returns what is left of a seam when a beginning of it is taken away, and false if it is none.
func (t threads) rest(beginning, seam string) (string, bool) {
	for _, letter := range letters(beginning) {
		at := t.front(seam, letter)
		if at < 0 {
			return "", false
		}
		seam = without(seam, at)
	}
	return seam, true
}

// meet returns the least one of the longest seams that begin both, and the rests of both. The letters that can be made
// first in it are just those that can be made first in both, so the least of them is taken each time.
func (t threads) meet(a, b string) (string, string, string) {
	var common []byte
	for letter := 0; letter < t.count; {
		i, j := t.front(a, letter), t.front(b, letter)
		if i < 0 || j < 0 {
			letter++
			continue
		}
		common = append(common, a[i])
		a, b = without(a, i), without(b, j)
		letter = 0
	}
	return string(common), a, b
}

// allCommute reports whether each letter of one seam commutes with each letter of another one.
func (t threads) allCommute(a, b string) bool {
	for _, x := range letters(a) {
		for _, y := range letters(b) {
			if !t.commute[x][y] {
				return false
			}
		}
	}
	return true
}

func (t threads) parts(seam string) []string {
	var open [api.MaxLetters]bool // the letters of the seam that are in no part yet
	for _, letter := range letters(seam) {
		open[letter] = true
	}
	var parts []string
	for least := range t.count {
		if open[least] {
			before := open
			t.takePart(&open, least)
			parts = append(parts, taken(seam, before, open))
		}
	}
	return parts
}

// takePart takes from the open letters one of them, and those that chains connect with it.
func (t threads) takePart(open *[api.MaxLetters]bool, letter int) {
	open[letter] = false
	for other := range t.count {
		if open[other] && !t.commute[letter][other] {
			t.takePart(open, other)
		}
	}
}

// taken returns the letters of a seam that were open before, and are not any more.
func taken(seam string, before, after [api.MaxLetters]bool) string {
	var part []byte
	for i, letter := range letters(seam) {
		if before[letter] && !after[letter] {
			part = append(part, seam[i])
		}
	}
	return string(part)
}
