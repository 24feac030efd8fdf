package cluster

import (
	"scholia/api"
)

const (
	noPage    = -1
	allGoOn   = -1 // of a fuse: no act is the last one
	maxRounds = 64
)

// Calm lets all come up, no power go, and then so many times each send to each other one, and that come, ahead of which nothing is on its way: whether nothing failed.
func (c *Cluster) Calm(rounds int) bool {
	if !c.made() {
		return false
	}
	well := true
	for i := range c.nodes {
		well = c.wake(i) && well
	}
	for range min(rounds, maxRounds) {
		well = c.round() && well
	}
	return well
}

// well tells whether all of some steps tell OK; each is done, whatever those ahead told.
func (c *Cluster) well(steps ...api.Step) bool {
	well := true
	for _, x := range steps {
		well = c.Step(x).Err == api.OK && well
	}
	return well
}

// wake lets a replica be up, its power last, and what it sent be lost.
func (c *Cluster) wake(i int) bool {
	well := true
	if c.nodes[i].up == nil {
		well = c.well(api.Step{Kind: api.SCrash, Rep: i, X: noPage}, api.Step{Kind: api.SStart, Rep: i})
	}
	well = c.well(api.Step{Kind: api.SFuse, Rep: i, N: allGoOn}) && well
	for to := range c.nodes {
		for c.Count(i, to) > 0 {
			c.lanes.Lose(i, to, 0)
		}
	}
	return well
}

// round lets each send to each other one, and that come.
func (c *Cluster) round() bool {
	well := true
	for from := range c.nodes {
		for to := range c.nodes {
			if from != to {
				well = c.well(api.Step{Kind: api.SSend, Rep: from, To: to}, api.Step{Kind: api.SDeliver, Rep: from, To: to}) && well
			}
		}
	}
	return well
}
