package cluster

import (
	"slices"

	"scholia/api"
	"scholia/dots"
	"scholia/replica"
)

// Step does a step.
func (c *Cluster) Step(x api.Step) api.Answer {
	if !c.made() {
		return api.Answer{Err: api.ENIL}
	}
	switch x.Kind {
	case api.SDeliver, api.SLose, api.SDouble, api.SSpoil:
		return api.Answer{Err: c.onWay(x)}
	case api.SCrash, api.SStart, api.SFuse:
		return api.Answer{Err: c.onDevice(x)}
	case api.SPut, api.SDrop:
		return api.Answer{Err: c.edit(x)}
	case api.SSend:
		return api.Answer{Err: c.send(x)}
	case api.SSync, api.SFlush, api.SCompact, api.SCollect, api.SSave:
		return api.Answer{Err: c.keepHouse(x)}
	case api.SQuery:
		return c.query(x)
	}
	return api.Answer{Err: api.EARG}
}

// with lets a replica do something. One whose device tells that it is dead is not up from then on.
func (c *Cluster) with(i int, do func(r *replica.Replica) api.Errno) api.Errno {
	r, e := c.replica(i)
	if e != api.OK {
		return e
	}
	e = do(r)
	if e == api.EDEAD {
		c.nodes[i].up = nil
	}
	return e
}

// onWay is a step of a way between two, whether they are up or not.
func (c *Cluster) onWay(x api.Step) api.Errno {
	switch x.Kind {
	case api.SLose:
		return c.lanes.Lose(x.Rep, x.To, x.N)
	case api.SDouble:
		return c.lanes.Double(x.Rep, x.To, x.N)
	case api.SSpoil:
		return c.lanes.Spoil(x.Rep, x.To, x.N, x.At, byte(x.X))
	}
	b, e := c.lanes.Take(x.Rep, x.To, x.N)
	if e != api.OK {
		return e
	}
	return c.with(x.To, func(r *replica.Replica) api.Errno { return r.Take(b) })
}

// onDevice is a step of a replica's device, whether the replica is up or not.
func (c *Cluster) onDevice(x api.Step) api.Errno {
	n, e := c.node(x.Rep)
	if e != api.OK {
		return e
	}
	switch x.Kind {
	case api.SCrash:
		n.up = nil
		return n.disk.Crash(x.Keep, x.X, x.At)
	case api.SStart:
		return c.start(x.Rep)
	}
	return n.disk.Fuse(x.N)
}

// start lets a replica come up. What it did and does not know any more was lost.
func (c *Cluster) start(i int) api.Errno {
	n := &c.nodes[i]
	if n.up != nil {
		return api.EARG
	}
	r, e := replica.Open(n.disk, i, c.Size())
	if e != api.OK {
		return e
	}
	n.up = r
	seen := r.State().Seen
	c.events = slices.DeleteFunc(c.events, func(e api.Event) bool { return e.Dot.Rep == i && !dots.Has(seen, e.Dot) })
	return api.OK
}

// edit lets a replica do an event.
func (c *Cluster) edit(x api.Step) api.Errno {
	return c.with(x.Rep, func(r *replica.Replica) api.Errno {
		event, e := api.Event{}, api.OK
		if x.Kind == api.SPut {
			event, e = r.Put(x.Doc, x.Field, x.Text)
		} else {
			event, e = r.Drop(x.Doc)
		}
		if e == api.OK {
			c.events = append(c.events, event)
		}
		return e
	})
}

// send lets a replica send to another one.
func (c *Cluster) send(x api.Step) api.Errno {
	return c.with(x.Rep, func(r *replica.Replica) api.Errno {
		b, e := r.Send(x.To)
		if e != api.OK {
			return e
		}
		return c.lanes.Send(x.Rep, x.To, b)
	})
}

// keepHouse lets a replica do what changes no document.
func (c *Cluster) keepHouse(x api.Step) api.Errno {
	return c.with(x.Rep, func(r *replica.Replica) api.Errno {
		switch x.Kind {
		case api.SSync:
			return r.Sync()
		case api.SFlush:
			return r.Flush()
		case api.SCompact:
			return r.Compact()
		case api.SSave:
			return r.Save()
		}
		r.Collect()
		return api.OK
	})
}

// query asks a replica.
func (c *Cluster) query(x api.Step) api.Answer {
	var a api.Answer
	a.Err = c.with(x.Rep, func(r *replica.Replica) api.Errno {
		hits, e := r.Query(x.Text, x.N)
		a.Hits = hits
		return e
	})
	return a
}
