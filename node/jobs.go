package node

import (
	"maps"
	"slices"

	"amphora/api"
	"amphora/coord"
	"amphora/mover"
	"amphora/place"
	"amphora/recode"
)

// mostCalls is how many are open at most.
const mostCalls = 16

// jobs is what the node is about: calls of clients by the numbers of their
// commands, shards that move to it, and blobs that it recodes.
type jobs struct {
	calls    map[int]*call
	movers   []*moving
	recoders []*recoding
}

// call is an open call, and whether its command was wanted.
type call struct {
	*coord.Call
	wanted bool
}

// moving is a shard that moves here, and whether its switch was wanted.
type moving struct {
	*mover.Mover
	wanted bool
}

// recoding is a blob that is recoded here, and whether its recast was wanted.
type recoding struct {
	*recode.Recoder
	wanted bool
}

// asker is whoever has other nodes be asked for something.
type asker interface{ Asks(epoch int) []api.Msg }

// ask sends what somebody asks for.
func (n *Node) ask(a asker) {
	for _, m := range a.Asks(n.state.Epoch()) {
		n.send(m)
	}
}

// open is the numbers of the open calls, as they came.
func (j *jobs) open() []int { return slices.Sorted(maps.Keys(j.calls)) }

// begin opens a call, if it can be done.
func (n *Node) begin(a api.Ask) bool {
	if len(n.calls) >= mostCalls {
		return false
	}
	id, ok := n.draw()
	if !ok {
		return false
	}
	c, e := coord.New(n.self, a, id, n.now)
	if e != api.OK || a.Kind == api.AskPut && !n.place(c, id) {
		return false
	}
	n.calls[id] = &call{Call: c}
	n.ask(c)
	return true
}

// place has a put know where its shards lie, if there is room for them.
func (n *Node) place(c *coord.Call, id int) bool {
	code := n.state.Code()
	nodes, e := place.Choose(n.state.Members(), id, code.K+code.M)
	return e == api.OK && c.Place(code, nodes) == api.OK
}

// answer tells what an open call told; then it may be open no more.
func (n *Node) answer(id int, told []api.Told) {
	n.tell(told...)
	if n.calls[id].Done() {
		delete(n.calls, id)
	}
}

// tickCalls has each open call hear the time.
func (n *Node) tickCalls() {
	for _, id := range n.open() {
		n.answer(id, n.calls[id].Tick(n.now))
	}
}

// askAgain has all who ask do so once more, now and then.
func (n *Node) askAgain() {
	if n.now%api.Again != 0 {
		return
	}
	for _, id := range n.open() {
		n.ask(n.calls[id])
	}
	for _, m := range n.movers {
		n.ask(m)
	}
	for _, r := range n.recoders {
		n.ask(r)
	}
}

// dropDue drops the shards on which no lease is any more.
func (n *Node) dropDue() {
	due := n.waits.Due(n.now)
	for _, x := range due {
		n.shelf.Drop(x[0], x[1])
	}
	if len(due) > 0 {
		n.shelf.Sync()
	}
}
