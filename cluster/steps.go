package cluster

import (
	"bytes"

	"amphora/api"
	"amphora/node"
)

// mostRounds is how many fair rounds a step may have.
const mostRounds = 300

// Do does a step.
func (c *Cluster) Do(s api.Step) api.Errno {
	if !c.made() {
		return api.ErrNil
	}
	if e := c.refuses(s); e != api.OK {
		return e
	}
	switch s.Kind {
	case api.StepAsk:
		return c.ask(s.Node, s.Ask)
	case api.StepAdmin:
		return c.take(c.nodes[s.Node].Admin(s.Cmd))
	case api.StepDeliver:
		return c.deliver(s.N)
	case api.StepLose:
		return c.post.Lose(s.N)
	case api.StepTwice:
		_, e := c.post.Twice(s.N)
		return e
	case api.StepTick:
		return c.tick(s.Node)
	case api.StepStart:
		return c.start(s.Node)
	case api.StepFail:
		if e := c.plates[s.Node].Fail(); e != api.OK {
			return e
		}
		fallthrough // it ends a node as a crash does; the plate has nothing left to lose
	case api.StepCrash:
		c.plates[s.Node].Crash(s.Keep, s.Torn, s.Bytes)
		c.nodes[s.Node] = nil
		return api.OK
	case api.StepSettle:
		return c.settle(s.N)
	}
	return api.ErrArg
}

// refuses is why the node of a step can't do it: a node that shall run has to be
// there as well.
func (c *Cluster) refuses(s api.Step) api.Errno {
	switch s.Kind {
	case api.StepAsk, api.StepAdmin, api.StepCrash:
		if c.has(s.Node) && !c.runs(s.Node) {
			return api.ErrDown
		}
		fallthrough
	case api.StepTick, api.StepStart, api.StepFail:
		if !c.has(s.Node) {
			return api.ErrArg
		}
	}
	return api.OK
}

// take has what a node answers be sent, and stand in the journal. What the post
// has no room for is lost.
func (c *Cluster) take(out []api.Msg, told []api.Told, e api.Errno) api.Errno {
	for _, m := range out {
		c.post.Send(m)
	}
	for _, t := range told {
		c.journal = append(c.journal, api.Event{Answer: true, ID: t.ID, Kind: t.Says, Bytes: t.Bytes})
	}
	return e
}

// ask has a node hear a call, which stands in the journal ahead of its answer.
func (c *Cluster) ask(node int, a api.Ask) api.Errno {
	c.calls++
	a.ID = c.calls
	c.journal = append(c.journal, api.Event{ID: a.ID, Kind: a.Kind, Key: a.Key, Bytes: bytes.Clone(a.Bytes)})
	return c.take(c.nodes[node].Ask(a))
}

// deliver takes a packet off the post; a node that does not run never hears it.
func (c *Cluster) deliver(id int) api.Errno {
	m, e := c.post.Take(id)
	if e != api.OK || !c.runs(m.To) {
		return e
	}
	return c.take(c.nodes[m.To].On(m))
}

// tick lets a node's clock go on, also while the node does not run.
func (c *Cluster) tick(node int) api.Errno {
	e := c.clocks.Tick(node)
	if e != api.OK || !c.runs(node) {
		return e
	}
	return c.take(c.nodes[node].Tick())
}

// start opens a node on what its plate has.
func (c *Cluster) start(i int) api.Errno {
	if c.runs(i) {
		return api.ErrDown
	}
	n, e := node.Open(i, c.setup, c.plates[i])
	if e != api.OK {
		return e
	}
	c.nodes[i] = n
	return api.OK
}

// settle has fair rounds. What is sent in one of them is delivered in the next.
func (c *Cluster) settle(rounds int) api.Errno {
	if rounds < 0 || rounds > mostRounds {
		return api.ErrArg
	}
	for range rounds {
		for _, p := range c.post.Packets() {
			c.deliver(p.ID)
		}
		for i := range c.nodes {
			c.tick(i)
		}
	}
	return api.OK
}
