package node

import (
	"cmp"
	"slices"

	"amphora/api"
	"amphora/mover"
	"amphora/recode"
)

// work does what can be done behind a call, or a message.
func (n *Node) work() {
	n.applyChosen()
	n.wantCalls()
	n.move()
	n.recode()
	n.propose()
}

// applyChosen applies what the chain has, slot by slot.
func (n *Node) applyChosen() {
	for {
		c, ok := n.chain.Get(n.state.Slot())
		if !ok {
			return
		}
		n.apply(c)
	}
}

// apply applies a command, and has all hear of it whom it is about.
func (n *Node) apply(c api.Cmd) {
	ahead := n.state.Mine(n.self)
	out, _ := n.state.Apply(c)
	n.keepMine(ahead)
	if c.Kind == api.CmdPut && (out.Kind == api.OutThere || out.Kind == api.OutRefused) {
		n.retirePut(c)
	}
	n.lose(c.ID)
	if x, ok := n.calls[c.ID]; ok {
		n.answer(c.ID, x.Applied(out, n.now))
		n.ask(x)
	}
}

// keepMine has the shards wait that the node need not have any more, and no
// others.
func (n *Node) keepMine(ahead [][2]int) {
	mine := n.state.Mine(n.self)
	for _, x := range ahead {
		if _, ok := slices.BinarySearchFunc(mine, x, rising); !ok {
			n.waits.Retire(x[0], x[1], n.now)
		}
	}
	for _, x := range mine {
		n.waits.Keep(x[0], x[1])
	}
}

// rising orders shards by blob, then by index.
func rising(a, b [2]int) int { return cmp.Or(cmp.Compare(a[0], b[0]), cmp.Compare(a[1], b[1])) }

// retirePut has the shards wait that a put brought here which came to nothing.
func (n *Node) retirePut(c api.Cmd) {
	for index, node := range c.Nodes {
		if node == n.self {
			n.waits.Retire(c.ID, index, n.now)
		}
	}
}

// wantCalls wants the commands of calls whose time has come.
func (n *Node) wantCalls() {
	for _, id := range n.open() {
		x := n.calls[id]
		if c, ok := x.Cmd(); ok && !x.wanted {
			x.wanted = true
			n.want(c)
		}
	}
}

// move goes on with the shards that move here.
func (n *Node) move() {
	moves := n.state.Moves()
	n.movers = slices.DeleteFunc(n.movers, func(x *moving) bool { return !slices.Contains(moves, x.Move()) })
	for _, m := range moves {
		if m.Node == n.self && len(n.movers) < api.Movers && !n.isMoving(m) {
			n.beginMove(m)
		}
	}
	for _, x := range n.movers {
		n.storeMoved(x)
		n.switchMoved(x)
	}
}

// isMoving tells whether a move has a mover.
func (n *Node) isMoving(m api.Move) bool {
	return slices.ContainsFunc(n.movers, func(x *moving) bool { return x.Move() == m })
}

// beginMove begins to move a shard; it may be here already, from an earlier
// life.
func (n *Node) beginMove(m api.Move) {
	b, _ := n.state.Find(m.Blob)
	x, e := mover.New(n.self, b, m.Index)
	if e != api.OK {
		return
	}
	if shard, e := n.shelf.Fetch(m.Blob, m.Index, api.MaxNumber); e == api.OK {
		x.Have(shard)
	}
	n.movers = append(n.movers, &moving{Mover: x})
	n.ask(x)
}

// storeMoved makes a shard durable that came. Then its old holder is to be
// fenced.
func (n *Node) storeMoved(x *moving) {
	if x.Phase() != 2 {
		return
	}
	m, epoch := x.Move(), n.state.Epoch()
	if n.synced(n.shelf.Store(m.Blob, m.Index, epoch, x.Shard())) != api.OK {
		return
	}
	n.waits.Keep(m.Blob, m.Index)
	x.Stored(epoch)
	n.ask(x)
}

// switchMoved wants a shard to lie here whose old holder is fenced, or failed.
func (n *Node) switchMoved(x *moving) {
	m := x.Move()
	if b, _ := n.state.Find(m.Blob); x.Phase() == 3 && n.state.Failed(b.Nodes[m.Index]) {
		x.Skip()
	}
	if x.Phase() == 4 && !x.wanted {
		x.wanted = true
		n.wantNew(api.Cmd{Kind: api.CmdSwitch, Blob: m.Blob, Index: m.Index, Node: m.Node})
	}
}

// recode goes on with the blobs that are recoded here.
func (n *Node) recode() {
	recodes := n.state.Recodes()
	n.recoders = slices.DeleteFunc(n.recoders, func(x *recoding) bool {
		return !slices.ContainsFunc(recodes, func(r api.Recode) bool { return isOf(x, r) })
	})
	for _, r := range recodes {
		if n.drives(r) && !n.isRecoding(r) {
			n.beginRecode(r)
		}
	}
	for _, x := range n.recoders {
		if x.Phase() == 3 && !x.wanted {
			x.wanted = true
			r := x.Recode()
			n.wantNew(api.Cmd{Kind: api.CmdRecast, Blob: r.Blob, Other: r.Other})
		}
	}
}

// drives tells whether a recode is to be done here.
func (n *Node) drives(r api.Recode) bool { return r.Other%api.MaxNodes == n.self }

// isOf tells whether a recoder is that of a recode. No two have one number.
func isOf(x *recoding, r api.Recode) bool { return x.Recode().Other == r.Other }

// isRecoding tells whether a recode has a recoder.
func (n *Node) isRecoding(r api.Recode) bool {
	return slices.ContainsFunc(n.recoders, func(x *recoding) bool { return isOf(x, r) })
}

// beginRecode begins to recode a blob.
func (n *Node) beginRecode(r api.Recode) {
	b, _ := n.state.Find(r.Blob)
	x, e := recode.New(n.self, b, r)
	if e != api.OK {
		return
	}
	n.recoders = append(n.recoders, &recoding{Recoder: x})
	n.ask(x)
}
