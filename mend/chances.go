package mend

import (
	"pommel/api"
	"pommel/exact"
)

// maxPart is how many digits the numerator and the denominator of a chance may have.
const maxPart = 4

// doneAge is the age of a job that is done.
const doneAge = -1

// uncertain is a job of which is known with what chance it takes how long; its Length is the greatest one that is possible.
type uncertain struct {
	api.Job
	just  []exact.Ratio // the chance that it takes 1, 2 and so on
	above []exact.Ratio // the chance that it takes more than 0, 1 and so on
}

// readChances reads chances. A Num that is not valid comes before all else that is wrong.
func readChances(l []api.Chance) ([]uncertain, api.Errno) {
	for _, c := range l {
		for _, n := range c.Lengths {
			if _, ok := exact.Read(n, api.MaxDigits); !ok {
				return nil, api.ErrForm
			}
		}
	}
	if len(l) < 1 || len(l) > api.MaxChances {
		return nil, api.ErrArg
	}
	var jobs []uncertain
	for _, c := range l {
		job, ok := newUncertain(c)
		if !ok {
			return nil, api.ErrArg
		}
		jobs = append(jobs, job)
	}
	return jobs, api.OK
}

// newUncertain returns a job with chances, and whether they are valid.
func newUncertain(c api.Chance) (uncertain, bool) {
	n := len(c.Lengths)
	if n < 1 || n > api.MaxChance || !isWeight(c.Weight) {
		return uncertain{}, false
	}
	u := uncertain{Job: api.Job{Length: n, Weight: c.Weight}, above: make([]exact.Ratio, n+1)}
	for _, num := range c.Lengths {
		just, ok := exact.Read(num, maxPart)
		if !ok || just.Sign() < 0 {
			return uncertain{}, false
		}
		u.just = append(u.just, just)
	}
	for age := n - 1; age >= 0; age-- {
		u.above[age] = u.just[age].Plus(u.above[age+1])
	}
	if u.above[0].Compare(exact.Whole(1)) != 0 || u.above[n-1].Sign() == 0 {
		return uncertain{}, false
	}
	return u, true
}

// index returns the index at an age, and the least d with which it has that value.
func (u uncertain) index(age int) (exact.Ratio, int) {
	var greatest, time exact.Ratio
	best := 0
	for d := 1; age+d <= u.Length; d++ {
		time = time.Plus(u.above[age+d-1])
		ended := u.above[age].Minus(u.above[age+d])
		value := exact.Whole(u.Weight).Times(ended).Over(time)
		if best == 0 || value.Compare(greatest) > 0 {
			greatest, best = value, d
		}
	}
	return greatest, best
}

func areAges(jobs []uncertain, ages []int) bool {
	if len(ages) != len(jobs) {
		return false
	}
	for i, age := range ages {
		if age != doneAge && (age < 0 || age >= jobs[i].Length) {
			return false
		}
	}
	return true
}

// open returns the jobs that are not done.
func open(_ []uncertain, ages []int) []int {
	var left []int
	for i, age := range ages {
		if age != doneAge {
			left = append(left, i)
		}
	}
	return left
}

// choice returns the first of the jobs that are not done whose index is greatest, alone, or none if all are done.
func choice(jobs []uncertain, ages []int) []int {
	var chosen []int
	var greatest exact.Ratio
	for _, i := range open(jobs, ages) {
		if index, _ := jobs[i].index(ages[i]); chosen == nil || index.Compare(greatest) > 0 {
			chosen, greatest = []int{i}, index
		}
	}
	return chosen
}
