package kin

import (
	"slices"

	"pommel/api"
)

// areValid reports whether a matrix contains distances.
func areValid(d [][]int) bool {
	return len(d) >= 1 && len(d) <= api.MaxKin && areInRange(d) && areSymmetric(d) && areShort(d)
}

// areInRange reports whether all rows are as long as the matrix, of numbers that a distance may be.
func areInRange(d [][]int) bool {
	for _, row := range d {
		if len(row) != len(d) {
			return false
		}
		for _, far := range row {
			if far < 0 || far > api.MaxUnlike {
				return false
			}
		}
	}
	return true
}

func areSymmetric(d [][]int) bool {
	for i, row := range d {
		for j, far := range row {
			if far != d[j][i] || i == j && far != 0 {
				return false
			}
		}
	}
	return true
}

// areShort reports whether no distance is greater than the way by a third bit.
func areShort(d [][]int) bool {
	for i, row := range d {
		for j, far := range row {
			for k := range d {
				if far > d[i][k]+d[k][j] {
					return false
				}
			}
		}
	}
	return true
}

// threeSums returns the sums of the distances in the three ways to make two pairs of four bits.
func threeSums(d [][]int, i, j, k, l int) [3]int {
	return [3]int{d[i][j] + d[k][l], d[i][k] + d[j][l], d[i][l] + d[j][k]}
}

// isGreatestOnce reports whether the greatest of three numbers is there just once.
func isGreatestOnce(three [3]int) bool {
	slices.Sort(three[:])
	return three != [3]int{three[0], three[2], three[2]}
}

// misfits returns the first four bits that fit no tree, or nil if there are none.
func misfits(d [][]int) []int {
	n := len(d)
	for i := range n {
		for j := i; j < n; j++ {
			for k := j; k < n; k++ {
				for l := k; l < n; l++ {
					if isGreatestOnce(threeSums(d, i, j, k, l)) {
						return []int{i, j, k, l}
					}
				}
			}
		}
	}
	return nil
}

// unequal returns the first three bits that have no equal depths, or nil if there are none.
func unequal(d [][]int) []int {
	n := len(d)
	for i := range n {
		for j := i + 1; j < n; j++ {
			for k := j + 1; k < n; k++ {
				if isGreatestOnce([3]int{d[i][j], d[i][k], d[j][k]}) {
					return []int{i, j, k}
				}
			}
		}
	}
	return nil
}

// lowered returns for any two bits the longest step of the chain between them whose longest step is the shortest.
func lowered(d [][]int) [][]int {
	low := make([][]int, len(d))
	for i, row := range d {
		low[i] = slices.Clone(row)
	}
	for via := range low {
		for i := range low {
			for j := range low {
				low[i][j] = min(low[i][j], max(low[i][via], low[via][j]))
			}
		}
	}
	return low
}
