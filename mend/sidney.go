package mend

import (
	"pommel/api"
	"pommel/exact"
)

// sum returns the jobs of a set as one job.
func (p plan) sum(jobs set) api.Job {
	var sum api.Job
	for _, job := range jobs.list() {
		sum.Length += p.jobs[job].Length
		sum.Weight += p.jobs[job].Weight
	}
	return sum
}

func ratio(sum api.Job) exact.Ratio {
	return exact.Whole(sum.Weight).Over(exact.Whole(sum.Length))
}

// isBeginning reports whether with each job of a set those before it are in the set.
func (p plan) isBeginning(jobs set) bool {
	for _, job := range jobs.list() {
		if p.before[job]&^jobs != 0 {
			return false
		}
	}
	return true
}

func (p plan) decomposition() []set {
	var parts []set
	for done := set(0); done != p.all(); {
		next := p.steepest(done)
		parts = append(parts, next)
		done |= next
	}
	return parts
}

// steepest returns the greatest one of the beginnings with the greatest ratio of the jobs that are left. It contains the others,
// so that it is the last one of them.
func (p plan) steepest(done set) set {
	var steepest set
	var sum api.Job
	for jobs := set(1); jobs <= p.all(); jobs++ {
		if jobs&done != 0 || !p.isBeginning(done|jobs) {
			continue
		}
		if s := p.sum(jobs); s.Weight*sum.Length >= sum.Weight*s.Length {
			steepest, sum = jobs, s
		}
	}
	return steepest
}
