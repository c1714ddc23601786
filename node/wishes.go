package node

import (
	"slices"

	"amphora/api"
	"amphora/clone"
	"amphora/frame"
	"amphora/place"
)

// want is a command of the node's own that is not applied yet.
type want struct {
	cmd  api.Cmd
	sent int // when it was sent last
}

// wishes is commands that are to be in the log: the node's own ones, and those
// that it shall propose.
type wishes struct {
	wants  []want
	queue  []api.Cmd
	queued map[int]struct{} // the numbers of the queue's
}

// join puts a command behind the queue, unless it is there.
func (w *wishes) join(c api.Cmd) {
	if _, ok := w.queued[c.ID]; ok {
		return
	}
	w.queued[c.ID] = struct{}{}
	w.queue = append(w.queue, clone.Cmd(c))
}

// lose forgets the command of a number.
func (w *wishes) lose(id int) {
	w.wants = slices.DeleteFunc(w.wants, func(x want) bool { return x.cmd.ID == id })
	if _, ok := w.queued[id]; ok {
		delete(w.queued, id)
		w.queue = slices.DeleteFunc(w.queue, func(c api.Cmd) bool { return c.ID == id })
	}
}

// want has a command be wanted till it is applied.
func (n *Node) want(c api.Cmd) {
	n.wants = append(n.wants, want{c, n.now})
	n.sendWant(c)
}

// wantNew wants a command with a new number, if there is one.
func (n *Node) wantNew(c api.Cmd) {
	if id, ok := n.draw(); ok {
		c.ID = id
		n.want(c)
	}
}

// sendWant brings a command to whoever leads.
func (n *Node) sendWant(c api.Cmd) {
	switch {
	case n.leads():
		n.join(c)
	case n.leader != nobody:
		n.send(api.Msg{Kind: api.MsgForward, To: n.leader, Cmd: c})
	}
}

// wantAgain sends what was sent long ago: it may be lost.
func (n *Node) wantAgain() {
	for i := range n.wants {
		w := &n.wants[i]
		if n.now-w.sent >= api.Again {
			w.sent = n.now
			n.sendWant(w.cmd)
		}
	}
}

// ordered is a command of an administrator as it will be, with the next
// number.
func (n *Node) ordered(c api.Cmd) (api.Cmd, api.Errno) {
	if !isOrder(c.Kind) {
		return api.Cmd{}, api.ErrArg
	}
	id, ok := n.next()
	if !ok {
		return api.Cmd{}, api.ErrFull
	}
	c = clone.Cmd(c)
	if c.Key != "" && (c.Kind == api.CmdMove || c.Kind == api.CmdRecode) {
		b, _ := n.state.Blob(c.Key)
		c.Blob, c.Key = b.ID, ""
	}
	if c.Kind == api.CmdRecode && len(c.Nodes) == 0 {
		c.Nodes, _ = place.Choose(n.state.Members(), id, c.Code.K+c.Code.M)
	}
	c.ID = id
	if _, e := frame.Cmd(c); e != api.OK {
		return api.Cmd{}, api.ErrArg
	}
	return c, api.OK
}

// isOrder tells whether an administrator may give commands of a kind.
func isOrder(kind int) bool {
	switch kind {
	case api.CmdMove, api.CmdRecode, api.CmdAdmit, api.CmdRetire, api.CmdFail, api.CmdVoters, api.CmdWidth:
		return true
	}
	return false
}
