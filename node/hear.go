package node

import (
	"amphora/api"
	"amphora/frame"
)

const (
	mostVotes = 1000 // of a message
	mostTaken = 8    // commands that a node is taught at one time
)

// kinds is what messages do, by their kinds.
func kinds() map[int]func(*Node, api.Msg) {
	return map[int]func(*Node, api.Msg){
		api.MsgPrepare:  (*Node).onPrepare,
		api.MsgPromise:  (*Node).onPromise,
		api.MsgAccept:   (*Node).onAccept,
		api.MsgAccepted: (*Node).onAccepted,
		api.MsgRefuse:   (*Node).onRefuse,
		api.MsgChosen:   (*Node).onChosen,
		api.MsgLearn:    (*Node).onLearn,
		api.MsgBeat:     (*Node).onBeat,
		api.MsgForward:  (*Node).onForward,
		api.MsgStore:    (*Node).onStore,
		api.MsgStored:   (*Node).onAnswer,
		api.MsgFetch:    (*Node).onFetch,
		api.MsgFetched:  (*Node).onAnswer,
		api.MsgFence:    (*Node).onFence,
		api.MsgFenced:   (*Node).onAnswer,
	}
}

// hear takes a message, if it may be, and is to this node, of one that there
// is.
func (n *Node) hear(m api.Msg) {
	if _, e := frame.Msg(m); e != api.OK || m.To != n.self || m.From >= n.nodes {
		return
	}
	kinds()[m.Kind](n, m)
}

func (n *Node) onPrepare(m api.Msg) {
	n.meet(m.Ballot)
	ok, votes, e := n.acceptor.Prepare(m.Ballot, m.Slot)
	switch {
	case e != api.OK:
	case ok:
		n.heard = n.now
		votes = votes[:min(len(votes), mostVotes)]
		n.send(api.Msg{Kind: api.MsgPromise, To: m.From, Ballot: m.Ballot, Slot: m.Slot, Votes: votes})
	default:
		n.refuse(m.From)
	}
}

// refuse tells a node which ballot was promised.
func (n *Node) refuse(node int) {
	n.send(api.Msg{Kind: api.MsgRefuse, To: node, Ballot: n.acceptor.Promised()})
}

func (n *Node) onPromise(m api.Msg) {
	if m.Ballot == n.try.Ballot() {
		n.try.Promise(m.From, m.Votes)
	}
}

func (n *Node) onAccept(m api.Msg) {
	n.meet(m.Ballot)
	ok, e := n.acceptor.Accept(m.Ballot, m.Slot, m.Cmd)
	switch {
	case e != api.OK:
	case ok:
		n.leader, n.heard = m.From, n.now
		n.send(api.Msg{Kind: api.MsgAccepted, To: m.From, Ballot: m.Ballot, Slot: m.Slot})
	default:
		n.refuse(m.From)
	}
}

func (n *Node) onAccepted(m api.Msg) {
	if m.Ballot != n.try.Ballot() {
		return
	}
	n.try.Accepted(m.From, m.Slot)
	_, known := n.chain.Get(m.Slot)
	if known || !n.try.Chosen(m.Slot, n.state.Voters(m.Slot)) {
		return
	}
	c, _ := n.try.Proposed(m.Slot)
	n.chain.Learn(m.Slot, c)
	n.toOthers(api.Msg{Kind: api.MsgChosen, Slot: m.Slot, Cmd: c})
}

func (n *Node) onRefuse(m api.Msg) { n.meet(m.Ballot) }

func (n *Node) onChosen(m api.Msg) { n.chain.Learn(m.Slot, m.Cmd) }

func (n *Node) onLearn(m api.Msg) {
	first := max(m.Slot, 1)
	for i, c := range n.chain.From(first, mostTaken) {
		n.send(api.Msg{Kind: api.MsgChosen, To: m.From, Slot: first + i, Cmd: c})
	}
}

func (n *Node) onBeat(m api.Msg) {
	n.meet(m.Ballot)
	if m.Ballot != n.highest {
		return
	}
	n.leader, n.heard = m.From, n.now
	if next := n.chain.Next(); m.Slot > next {
		n.send(api.Msg{Kind: api.MsgLearn, To: m.From, Slot: next})
	}
}

func (n *Node) onForward(m api.Msg) {
	if n.leads() {
		n.join(m.Cmd)
	}
}

func (n *Node) onStore(m api.Msg) {
	n.reply(m, api.MsgStored, nil, n.synced(n.shelf.Store(m.Blob, m.Index, m.Epoch, m.Bytes)))
}

func (n *Node) onFetch(m api.Msg) {
	b, e := n.shelf.Fetch(m.Blob, m.Index, m.Epoch)
	n.reply(m, api.MsgFetched, b, e)
}

func (n *Node) onFence(m api.Msg) {
	n.reply(m, api.MsgFenced, nil, n.synced(n.shelf.Fence(m.Blob, m.Index, m.Epoch)))
}

// synced makes durable what the shelf did without an error, and is the first
// error of both.
func (n *Node) synced(e api.Errno) api.Errno {
	if e != api.OK {
		return e
	}
	return n.shelf.Sync()
}

// reply tells what became of a shard's request. A node whose disk is dead says
// nothing.
func (n *Node) reply(m api.Msg, kind int, b []byte, e api.Errno) {
	if e == api.ErrDead {
		return
	}
	n.send(api.Msg{Kind: kind, To: m.From, Blob: m.Blob, Index: m.Index, ID: m.ID, OK: e == api.OK, Bytes: b})
}

// onAnswer has all who may have asked hear an answer. Movers that go on by it
// ask for more when their shard is durable, calls when they are applied.
func (n *Node) onAnswer(m api.Msg) {
	for _, id := range n.open() {
		n.answer(id, n.calls[id].On(m, n.now))
	}
	for _, x := range n.movers {
		x.On(m)
	}
	for _, x := range n.recoders {
		phase := x.Phase()
		x.On(m)
		if x.Phase() != phase {
			n.ask(x)
		}
	}
}
