package mend

import (
	"pommel/api"
	"pommel/exact"
)

// state is the age of each job.
type state [api.MaxChances]int

// course is jobs, and which of them may be worked on next.
type course struct {
	jobs  []uncertain
	next  func(jobs []uncertain, ages []int) []int
	costs map[state]exact.Ratio // those that are known already
}

// meanCost returns the least mean cost of jobs if only those of next are worked on.
func meanCost(jobs []uncertain, next func([]uncertain, []int) []int) exact.Ratio {
	c := course{jobs: jobs, next: next, costs: map[state]exact.Ratio{}}
	return c.cost(state{})
}

// cost returns the least mean of what is to be paid from a state on, times its chance: that the jobs that are not done take longer
// than their ages. (So nothing has to be divided by a chance.)
func (c course) cost(ages state) exact.Ratio {
	if known, ok := c.costs[ages]; ok {
		return known
	}
	var least exact.Ratio
	for i, job := range c.next(c.jobs, ages[:len(c.jobs)]) {
		if later := c.later(ages, job); i == 0 || later.Compare(least) < 0 {
			least = later
		}
	}
	cost := c.unit(ages).Plus(least)
	c.costs[ages] = cost
	return cost
}

// unit returns what one unit of time costs, times the chance of the state.
func (c course) unit(ages state) exact.Ratio {
	weight, chance := 0, exact.Whole(1)
	for i, u := range c.jobs {
		if ages[i] != doneAge {
			weight += u.Weight
			chance = chance.Times(u.above[ages[i]])
		}
	}
	return chance.Times(exact.Whole(weight))
}

// later returns what is to be paid after a unit of time in which a job is worked on.
func (c course) later(ages state, job int) exact.Ratio {
	u, age := c.jobs[job], ages[job]
	ages[job] = doneAge
	ended := u.just[age].Times(c.cost(ages))
	if age+1 == u.Length {
		return ended
	}
	ages[job] = age + 1
	return ended.Plus(c.cost(ages))
}
