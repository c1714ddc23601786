package node

import (
	"amphora/api"
	"amphora/lead"
)

// nobody is whom a node takes for the leader at first.
const nobody = -1

// race is who leads, as far as the node knows, and its own try to.
type race struct {
	try      *lead.Try        // nil without one
	began    int              // when it did
	proposed map[int]struct{} // the numbers of the commands that it proposed
	highest  int              // of all ballots that were met
	leader   int
	heard    int // when one was heard of
}

// meet hears of a ballot. A try with a lower one would be refused.
func (r *race) meet(ballot int) {
	r.highest = max(r.highest, ballot)
	if r.try.Ballot() < r.highest {
		r.try = nil
	}
}

// leads tells whether it does.
func (n *Node) leads() bool { return n.try.Leads(n.state.Voters(n.state.Slot())) }

// tickTry has a leader tell that it leads, and one that does not come to lead
// give up.
func (n *Node) tickTry() {
	switch {
	case n.leads():
		n.heard = n.now
		if n.now%api.BeatTime == 0 {
			n.beat()
		}
	case n.try != nil && n.now-n.began >= api.Again:
		n.try, n.heard = nil, n.now
	}
}

// beat tells the others that it leads, and proposes again what is not chosen
// yet.
func (n *Node) beat() {
	n.toOthers(api.Msg{Kind: api.MsgBeat, Ballot: n.try.Ballot(), Slot: n.chain.Next()})
	for _, slot := range n.try.Open() {
		if _, ok := n.chain.Get(slot); !ok {
			n.toAccept(slot)
		}
	}
}

// toAccept asks all nodes to accept what is proposed.
func (n *Node) toAccept(slot int) {
	c, _ := n.try.Proposed(slot)
	n.toAll(api.Msg{Kind: api.MsgAccept, Ballot: n.try.Ballot(), Slot: slot, Cmd: c})
}

// beginTry begins a try, if no leader was heard of for long. How long hangs on
// the node, so that not all begin one at once.
func (n *Node) beginTry() {
	if n.try != nil || n.now-n.heard < 10+4*n.self {
		return
	}
	ballot := n.highest + 1
	ballot += (n.self - ballot%api.MaxNodes + api.MaxNodes) % api.MaxNodes
	try, e := lead.New(ballot, n.chain.Next())
	if e != api.OK { // there is no greater ballot
		return
	}
	n.try, n.began, n.proposed, n.highest = try, n.now, map[int]struct{}{}, ballot
	n.toAll(api.Msg{Kind: api.MsgPrepare, Ballot: ballot, Slot: n.chain.Next()})
}

// propose has the next slots have commands, as far as it may.
func (n *Node) propose() {
	if n.try == nil {
		return
	}
	first := n.state.Slot()
	for slot := first; slot < first+api.Alpha; slot++ {
		if n.isTaken(slot) {
			continue
		}
		c, ok := n.choice(slot)
		if !ok {
			return
		}
		n.try.Propose(slot, c)
		n.proposed[c.ID] = struct{}{}
		n.toAccept(slot)
	}
}

// isTaken tells whether a slot has a command, or shall have one.
func (n *Node) isTaken(slot int) bool {
	_, chosen := n.chain.Get(slot)
	_, proposed := n.try.Proposed(slot)
	return chosen || proposed
}

// choice is what a slot shall have, if the node may say so: what may be chosen
// already, nothing in a gap, or what somebody wants.
func (n *Node) choice(slot int) (api.Cmd, bool) {
	if !n.try.Leads(n.state.Voters(slot)) {
		return api.Cmd{}, false
	}
	if c, ok := n.try.Bound(slot); ok {
		return c, true
	}
	if slot < n.try.Next() {
		return api.Cmd{Kind: api.CmdNop}, true
	}
	for _, c := range n.queue {
		if _, ok := n.proposed[c.ID]; !ok {
			return c, true
		}
	}
	return api.Cmd{}, false
}
