package kin

import (
	"math"
	"slices"

	"pommel/api"
)

// fine is a distance in parts of 1.
type fine int

// joining is the clusters that are left to be joined, and the splits of the branches that have been made.
type joining struct {
	all      set      // all bits
	clusters []set    // by their least bits
	apart    [][]fine // how far apart the clusters are
	one      fine     // how many parts make 1
	splits   []api.Split
}

// newJoining makes each bit a cluster. Each time that clusters are joined, distances are halved: the parts are so many that they never
// have to be parted.
func newJoining(d [][]int) *joining {
	n := len(d)
	c := &joining{all: allBits(n), one: 1 << n}
	for bit, row := range d {
		c.clusters = append(c.clusters, 1<<bit)
		c.apart = append(c.apart, make([]fine, n))
		for other, far := range row {
			c.apart[bit][other] = fine(far) * c.one
		}
	}
	return c
}

// joined returns the splits of the branches that joining neighbours makes.
func joined(d [][]int) []api.Split {
	c := newJoining(d)
	for len(c.clusters) > 3 {
		c.join(c.neighbours())
	}
	switch len(c.clusters) {
	case 3:
		c.finish()
	case 2:
		c.branch(1, 2*c.apart[0][1], c.one)
	}
	return listed(c.splits)
}

// others returns how many clusters there are beside any two of them.
func (c *joining) others() fine {
	return fine(len(c.clusters) - 2)
}

// sum returns the sum of all distances of a cluster.
func (c *joining) sum(a int) fine {
	sum := fine(0)
	for _, far := range c.apart[a] {
		sum += far
	}
	return sum
}

// neighbours returns the two clusters that are joined next.
func (c *joining) neighbours() (int, int) {
	first, second, least := 0, 0, fine(math.MaxInt)
	for a := range c.clusters {
		for b := a + 1; b < len(c.clusters); b++ {
			q := c.others()*c.apart[a][b] - c.sum(a) - c.sum(b)
			if q < least {
				first, second, least = a, b, q
			}
		}
	}
	return first, second
}

// join makes the branches of two clusters and makes them one, which takes the place of a, the first one.
func (c *joining) join(a, b int) {
	far := c.apart[a][b]
	more := c.sum(a) - c.sum(b)
	c.branch(a, c.others()*far+more, c.others()*c.one)
	c.branch(b, c.others()*far-more, c.others()*c.one)
	for other := range c.clusters {
		if other != a && other != b {
			middle := (c.apart[a][other] + c.apart[b][other] - far) / 2
			c.apart[a][other], c.apart[other][a] = middle, middle
		}
	}
	c.clusters[a] |= c.clusters[b]
	c.remove(b)
}

func (c *joining) remove(b int) {
	c.clusters = slices.Delete(c.clusters, b, b+1)
	c.apart = slices.Delete(c.apart, b, b+1)
	for a, row := range c.apart {
		c.apart[a] = slices.Delete(row, b, b+1)
	}
}

// finish makes the branches of the last three clusters, which meet in a point.
func (c *joining) finish() {
	for a := range 3 {
		b, other := (a+1)%3, (a+2)%3
		c.branch(a, c.apart[a][b]+c.apart[a][other]-c.apart[b][other], c.one)
	}
}

// branch makes the branch of a cluster; its length is half of so many parts.
func (c *joining) branch(a int, parts, one fine) {
	in := c.clusters[a]
	if in.has(0) {
		in = c.all &^ in
	}
	c.splits = append(c.splits, api.Split{Set: in.list(), Length: half(parts, one).Num()})
}
