package mend

import (
	"cmp"
	"slices"

	"pommel/api"
)

// set is a set of jobs: the number's digit of the value 1 << i is 1 if the job i is in it.
type set uint

func (s set) has(job int) bool {
	return s>>job&1 == 1
}

// list returns the jobs that are in a set, rising.
func (s set) list() []int {
	var list []int
	for job := range api.MaxJobs {
		if s.has(job) {
			list = append(list, job)
		}
	}
	return list
}

// plan is jobs and, for each one, those that must be done before it.
type plan struct {
	jobs   []api.Job
	before []set
}

func newPlan(jobs []api.Job, pairs []api.Pair) (plan, api.Errno) {
	if len(jobs) < 1 || len(jobs) > api.MaxJobs || len(pairs) > api.MaxPairs || !areInRange(jobs) {
		return plan{}, api.ErrArg
	}
	p := plan{jobs: jobs, before: make([]set, len(jobs))}
	for _, pair := range pairs {
		if !p.has(pair.A) || !p.has(pair.B) {
			return plan{}, api.ErrArg
		}
		p.before[pair.B] |= 1 << pair.A
	}
	if p.hasRing() {
		return plan{}, api.ErrArg
	}
	return p, api.OK
}

func areInRange(jobs []api.Job) bool {
	for _, job := range jobs {
		if job.Length < 1 || job.Length > api.MaxLength || !isWeight(job.Weight) {
			return false
		}
	}
	return true
}

func isWeight(weight int) bool {
	return weight >= 0 && weight <= api.MaxLength
}

func (p plan) has(job int) bool {
	return job >= 0 && job < len(p.jobs)
}

// all returns the set of all jobs.
func (p plan) all() set {
	return 1<<len(p.jobs) - 1
}

// ready returns the jobs that can be done next.
func (p plan) ready(done set) []int {
	var jobs []int
	for job, before := range p.before {
		if !done.has(job) && before&^done == 0 {
			jobs = append(jobs, job)
		}
	}
	return jobs
}

// hasRing reports whether the pairs go around a ring, as that of a job with itself does: its jobs are never ready.
func (p plan) hasRing() bool {
	done := set(0)
	for range p.jobs {
		for _, job := range p.ready(done) {
			done |= 1 << job
		}
	}
	return done != p.all()
}

func (p plan) isOrder(order []int) bool {
	done := set(0)
	for _, job := range order {
		if !slices.Contains(p.ready(done), job) {
			return false
		}
		done |= 1 << job
	}
	return done == p.all()
}

// start is the jobs that are done first, in order, when the last one of them ends, and what they cost.
type start struct {
	order     []int
	end, cost int
}

// with returns a start with one job more.
func (p plan) with(s start, job int) start {
	end := s.end + p.jobs[job].Length
	return start{order: append(slices.Clone(s.order), job), end: end, cost: s.cost + p.jobs[job].Weight*end}
}

// better returns that one of two starts with the same jobs which is cheaper or, if none is, lexicographically less.
func better(a, b start) start {
	if cmp.Or(cmp.Compare(a.cost, b.cost), slices.Compare(a.order, b.order)) < 0 {
		return a
	}
	return b
}

func (p plan) cost(order []int) int {
	var s start
	for _, job := range order {
		s = p.with(s, job)
	}
	return s.cost
}

// best returns the best order. It begins with the best start of the jobs that it does first: with a better one, it would be better.
func (p plan) best() start {
	return gathered(p, start{}, p.with, better)
}

func (p plan) orders() int {
	same := func(count, _ int) int { return count }
	sum := func(a, b int) int { return a + b }
	return gathered(p, 1, same, sum)
}

// gathered returns what is found for the set of all jobs: none is found for no job, with makes it that of one job more,
// and join makes one of what is found for the same set with different last jobs.
func gathered[T any](p plan, none T, with func(T, int) T, join func(a, b T) T) T {
	found := map[set]T{0: none}
	for done := set(0); done < p.all(); done++ { // the parts of a set are less than it
		here, ok := found[done]
		if !ok {
			continue
		}
		for _, job := range p.ready(done) {
			next, more := done|1<<job, with(here, job)
			if other, ok := found[next]; ok {
				more = join(other, more)
			}
			found[next] = more
		}
		delete(found, done)
	}
	return found[p.all()]
}
