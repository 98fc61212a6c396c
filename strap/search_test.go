package strap

import (
	"math/bits"
	"slices"
	"testing"

	"pommel/api"
)

func TestSingle(t *testing.T) {
	want := [][]int{
		{0}, {0, 1}, {0, 1, 3}, {0, 1, 4, 6}, {0, 1, 4, 9, 11}, {0, 1, 4, 10, 12, 17}, {0, 1, 4, 10, 18, 23, 25},
	}
	length := -1
	for k := 1; k <= api.MaxGolomb; k++ {
		holes := single(t, k)
		if !slices.Equal(holes, want[k-1]) {
			t.Errorf("Single(%d) = %v, want %v", k, holes, want[k-1])
		}
		if !isSingle(t, holes) || holes[k-1] <= length {
			t.Errorf("Single(%d) = %v after a length of %d", k, holes, length)
		}
		length = holes[k-1]
		checkStrap(t, holes)
	}
}

// TestNoneShorter: P3, by all straps with k holes that are not longer than Single.
func TestNoneShorter(t *testing.T) {
	for k := 1; k <= api.MaxGolomb; k++ {
		holes := single(t, k)
		for bits := range subsets(holes[k-1]+1, k) {
			other := setOf(bits)
			if other[0] != 0 || slices.Equal(other, holes) || len(firstTwice(other)) > 0 {
				continue
			}
			if other[k-1] < holes[k-1] || slices.Compare(other, holes) < 0 {
				t.Fatalf("Single(%d) = %v, not %v", k, holes, other)
			}
		}
	}
}

// subsets yields all sets of k of n places, as bits of a number.
func subsets(n, k int) func(yield func(int) bool) {
	return func(yield func(int) bool) {
		for set := 1<<k - 1; set < 1<<n; {
			if !yield(set) {
				return
			}
			low := set & -set
			next := set + low // Gosper: the next number with as many bits
			set = next | (next^set)/low>>2
		}
	}
}

func TestFull(t *testing.T) {
	cases := map[int][]int{
		1: {0, 1}, 2: {0, 1, 2}, 3: {0, 1, 3}, 4: {0, 1, 2, 4}, 5: {0, 1, 2, 5}, 6: {0, 1, 4, 6}, 7: {0, 1, 2, 3, 7},
		9: {0, 1, 2, 6, 9}, 13: {0, 1, 2, 6, 10, 13}, 17: {0, 1, 2, 3, 8, 13, 17}, 20: {0, 1, 2, 3, 4, 10, 15, 20},
	}
	for length, want := range cases {
		if holes := full(t, length); !slices.Equal(holes, want) {
			t.Errorf("Full(%d) = %v, want %v", length, holes, want)
		}
	}
	for length := 1; length <= api.MaxSparse; length++ {
		holes := full(t, length)
		if holes[len(holes)-1] != length || len(missesOf(t, holes)) > 0 {
			t.Errorf("Full(%d) = %v", length, holes)
		}
		checkStrap(t, holes)
	}
}

// TestNoneSparser: P3, by all straps of the length.
func TestNoneSparser(t *testing.T) {
	for length := 1; length <= api.MaxSparse; length++ {
		holes := full(t, length)
		for inner := range 1 << (length - 1) {
			set := 1 | inner<<1 | 1<<length
			if count := bits.OnesCount(uint(set)); count > len(holes) || !isFull(set, length) {
				continue
			} else if count < len(holes) || slices.Compare(setOf(set), holes) < 0 {
				t.Fatalf("Full(%d) = %v, not %v", length, holes, setOf(set))
			}
		}
	}
}

// isFull reports whether all distances come, of holes that are bits of a number.
func isFull(set, length int) bool {
	for n := 1; n <= length; n++ {
		if set&(set>>n) == 0 {
			return false
		}
	}
	return true
}

// wantRound are all even round straps that Round can be asked for.
type wantRound struct {
	v, k, often int
}

func wantRounds() map[wantRound][]int {
	return map[wantRound][]int{
		{3, 2, 1}:  {0, 1},
		{4, 3, 2}:  {0, 1, 2},
		{5, 4, 3}:  {0, 1, 2, 3},
		{6, 5, 4}:  {0, 1, 2, 3, 4},
		{7, 3, 1}:  {0, 1, 3},
		{7, 4, 2}:  {0, 1, 2, 4},
		{7, 6, 5}:  {0, 1, 2, 3, 4, 5},
		{11, 5, 2}: {0, 1, 2, 4, 7},
		{11, 6, 3}: {0, 1, 2, 4, 5, 7},
		{13, 4, 1}: {0, 1, 3, 9},
		{21, 5, 1}: {0, 1, 4, 14, 16},
		{31, 6, 1}: {0, 1, 3, 8, 12, 18},
	}
}

func TestRound(t *testing.T) {
	rounds := wantRounds()
	for v := 2; v <= api.MaxRound; v++ {
		for k := 2; k <= min(6, v-1); k++ {
			for often := 1; often <= v; often++ {
				want, ok := rounds[wantRound{v, k, often}]
				set, e := Round(v, k, often)
				if (e == api.OK) != ok || !ok && e != api.ErrNone || !slices.Equal(set, want) {
					t.Errorf("Round(%d, %d, %d) = %v, %d, want %v", v, k, often, set, e, want)
				}
				if e != api.OK {
					continue
				}
				if n, ok := evenOf(t, v, set); !ok || n != often || len(set) != k {
					t.Errorf("Round(%d, %d, %d) = %v, which is even by %d, %t", v, k, often, set, n, ok)
				}
			}
		}
	}
}

// TestAllRounds: P3, T1 and T3 by all sets of up to 6 places, of all v.
func TestAllRounds(t *testing.T) {
	for v := 3; v <= api.MaxRound; v++ {
		for k := 2; k <= min(6, v-1); k++ {
			least := map[int][]int{} // by how often each difference comes
			for bits := range subsets(v, k) {
				often, ok := evenBits(v, bits)
				if !ok {
					continue
				}
				if set := setOf(bits); least[often] == nil || slices.Compare(set, least[often]) < 0 {
					least[often] = set
				}
			}
			for often := 1; often <= v; often++ {
				if set, e := Round(v, k, often); !slices.Equal(set, least[often]) || (e == api.OK) != (least[often] != nil) {
					t.Errorf("Round(%d, %d, %d) = %v, %d, want %v", v, k, often, set, e, least[often])
				}
			}
			for often := range least {
				checkEven(t, v, k, often)
			}
		}
	}
}

// evenBits decides by turning the round strap whether it is even, of places that are bits of a number.
func evenBits(v, set int) (int, bool) {
	often := -1
	for n := 1; n < v; n++ {
		turned := (set<<n | set>>(v-n)) & (1<<v - 1)
		count := bits.OnesCount(uint(set & turned))
		if often >= 0 && count != often {
			return 0, false
		}
		often = count
	}
	return often, true
}

func TestSinger(t *testing.T) {
	cases := map[int][]int{2: {0, 1, 3}, 3: {0, 1, 3, 9}, 5: {0, 1, 3, 8, 12, 18}}
	for q, want := range cases {
		set := singer(t, q)
		v := q*q + q + 1
		if !slices.Equal(set, want) || !slices.Equal(canonOf(t, v, set), set) {
			t.Errorf("Singer(%d) = %v, want %v", q, set, want)
		}
		if often, ok := evenOf(t, v, set); !ok || often != 1 || len(set) != q+1 {
			t.Errorf("Singer(%d) = %v, which is even by %d, %t", q, set, often, ok)
		}
	}
}

// TestOneSinger: all even round straps of that kind have the Canon that Singer returns.
func TestOneSinger(t *testing.T) {
	for _, q := range []int{2, 3, 5} {
		v, count := q*q+q+1, 0
		want := singer(t, q)
		for bits := range subsets(v, q+1) {
			if often, ok := evenBits(v, bits); !ok || often != 1 {
				continue
			}
			count++
			if canon := canonOf(t, v, setOf(bits)); !slices.Equal(canon, want) {
				t.Fatalf("Canon(%d, %v) = %v, want %v", v, setOf(bits), canon, want)
			}
		}
		if count == 0 {
			t.Errorf("no even round strap of %d places", v)
		}
	}
}
