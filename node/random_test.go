package node_test

import (
	"testing"

	"amphora/api"
	"amphora/frame"
	"amphora/plate"
	"amphora/stripe"
)

// whole is a blob's bytes.
func whole(size int) []byte {
	b := make([]byte, size)
	for i := range b {
		b[i] = byte(i*37 + 1)
	}
	return b
}

// alone is one node with its model, which hears messages that nobody may have
// sent.
type alone struct {
	*pair
	d     *dice
	setup api.Setup
	sent  []api.Msg // what it sent, so that it may be answered
	next  int       // a number of commands that was not used
}

func (x *alone) nodes(count int) []int {
	all := make([]int, x.setup.Nodes)
	for i := range all {
		all[i] = i
	}
	for i := range all {
		j := i + x.d.roll(len(all)-i)
		all[i], all[j] = all[j], all[i]
	}
	return all[:min(count, len(all))]
}

// blob is the number of one that there is, mostly.
func (x *alone) blob() int {
	s := x.like.state
	if keys := s.Keys(); len(keys) > 0 && x.d.roll(8) > 0 {
		b, _ := s.Blob(of(x.d, keys...))
		return b.ID
	}
	return x.d.roll(50)
}

// cmd is a command that somebody may have had chosen.
func (x *alone) cmd() api.Cmd {
	d, self := x.d, x.like.self
	x.next += 1 + d.roll(20)
	c := api.Cmd{ID: x.next, Kind: d.roll(13), Key: keyOf(d), Blob: x.blob(), Index: d.roll(3), Node: d.roll(x.setup.Nodes)}
	if d.roll(3) == 0 {
		c.Kind = api.CmdPut
	}
	switch c.Kind {
	case api.CmdPut, api.CmdRecode:
		c.Code = api.Code{K: 1 + d.roll(2), M: d.roll(2)}
		c.Size = d.roll(30)
		c.Sum = frame.Sum(whole(c.Size))
		c.Nodes = x.nodes(c.Code.K + c.Code.M)
		if d.roll(2) == 0 {
			c.ID = c.ID/16*16 + 16 + self
			x.next = c.ID
		}
	case api.CmdMove:
		if d.roll(3) > 0 {
			c.Node = self
		}
	case api.CmdSwitch:
		if l := x.like.state.Moves(); len(l) > 0 {
			m := of(d, l...)
			c.Blob, c.Index, c.Node = m.Blob, m.Index, m.Node
		}
	case api.CmdRecast:
		if l := x.like.state.Recodes(); len(l) > 0 {
			r := of(d, l...)
			c.Blob, c.Other = r.Blob, r.Other
		}
	case api.CmdVoters:
		c.Nodes = x.nodes(1 + d.roll(3))
	case api.CmdWidth:
		c.Code = api.Code{K: 1 + d.roll(2), M: d.roll(2)}
	}
	if d.roll(20) == 0 {
		c.ID = d.roll(3)
	}
	return c
}

// reply is what a node may answer to a message.
func (x *alone) reply(m api.Msg) api.Msg {
	r := api.Msg{From: m.To, To: m.From, Ballot: m.Ballot, Slot: m.Slot, Blob: m.Blob, Index: m.Index, ID: m.ID, OK: x.d.roll(10) > 0}
	switch m.Kind {
	case api.MsgPrepare:
		r.Kind = api.MsgPromise
		for range x.d.roll(3) {
			r.Votes = append(r.Votes, api.Vote{Slot: m.Slot + x.d.roll(6), Ballot: 1 + x.d.roll(20), Cmd: x.cmd()})
		}
	case api.MsgAccept:
		r.Kind = api.MsgAccepted
	case api.MsgForward:
		r.Kind, r.Slot, r.Cmd = api.MsgChosen, x.like.chain.Next(), m.Cmd
	case api.MsgBeat:
		r.Kind, r.Slot = api.MsgLearn, x.d.roll(12)
	case api.MsgStore:
		r.Kind = api.MsgStored
	case api.MsgFetch:
		r.Kind = api.MsgFetched
		if b, ok := x.like.state.Find(m.Blob); ok {
			shards, _ := stripe.Cut(b.Code, whole(b.Size))
			r.Bytes = shards[m.Index]
		}
	case api.MsgFence:
		r.Kind = api.MsgFenced
	default:
		r.Kind = 1 + x.d.roll(15)
	}
	return r
}

// message is anything that a node may hear.
func (x *alone) message() api.Msg {
	d := x.d
	if len(x.sent) > 0 && d.roll(2) == 0 {
		return x.reply(of(d, x.sent...))
	}
	m := api.Msg{Kind: 1 + d.roll(15), From: d.roll(x.setup.Nodes), To: x.like.self}
	m.Ballot = max(x.like.highest+of(d, -17, -1, 0, 0, 0, 0, 0, 1, 16), 0)
	m.Slot = max(x.like.chain.Next()+of(d, -3, -1, 0, 0, 0, 0, 1, 2, 9), 0)
	m.Blob, m.Index, m.Epoch, m.ID, m.OK = x.blob(), d.roll(3), d.roll(6), d.roll(9), d.roll(2) == 0
	m.Bytes = make([]byte, 8*d.roll(3))
	if m.Kind == api.MsgChosen || m.Kind == api.MsgAccept || m.Kind == api.MsgForward || d.roll(9) == 0 {
		m.Cmd = x.cmd()
	}
	switch d.roll(40) {
	case 0:
		m.From = d.roll(20) - 2
	case 1:
		m.To = d.roll(20) - 2
	case 2:
		m.Kind = d.roll(3) * 16
	case 3:
		m.Ballot = -1
	case 4:
		m.Cmd.Key = "too long a key"
	case 5:
		m.Index = -1
	}
	return m
}

// step does one call; most are messages.
func (x *alone) step() {
	d := x.d
	take := func(out []api.Msg, _ []api.Told, _ api.Errno) {
		for _, m := range out {
			if len(x.sent) < 12 {
				x.sent = append(x.sent, m)
			} else {
				x.sent[d.roll(12)] = m
			}
		}
	}
	switch r := d.roll(100); {
	case r < 55:
		take(x.On(x.message()))
	case r < 62:
		take(x.On(api.Msg{Kind: api.MsgChosen, From: d.roll(x.setup.Nodes), To: x.like.self, Slot: x.like.chain.Next(), Cmd: x.cmd()}))
	case r < 86:
		take(x.Tick())
	case r < 88:
		for range 6 + d.roll(70) {
			take(x.Tick())
		}
	case r < 93:
		a := api.Ask{ID: d.roll(99), Kind: d.roll(5), Key: of(d, keyOf(d), keyOf(d), keyOf(d), "?")}
		if d.roll(2) == 0 {
			a.Kind = api.AskPut
		}
		if a.Kind == api.AskPut || d.roll(9) == 0 {
			a.Bytes = whole(d.roll(30))
		}
		take(x.Ask(a))
	case r < 98:
		c := x.cmd()
		c.ID = d.roll(3)
		if d.roll(2) == 0 {
			c.Nodes = nil
		}
		if d.roll(3) == 0 {
			c.Key = ""
		}
		if d.roll(9) == 0 {
			c.Node = 16
		}
		take(x.Admin(c))
	case r < 99 && !x.plate.Failed():
		x.crash(x.plate.Dirty()[:d.roll(len(x.plate.Dirty())+1)], -1, 0)
		x.pair = openPair(x.t, x.like.self, x.setup, x.plate, x.other)
	default:
		if d.roll(20) == 0 {
			x.plate.Fail()
			x.other.Fail()
		}
	}
}

// P20.1, P20.2: a node is the chapter's, over many scripts of whatever it may
// hear.
func TestModel(t *testing.T) {
	for seed := range 250 {
		d := dice(seed)
		nodes := 1 + d.roll(5)
		s := api.Setup{Nodes: nodes, Voters: 1 + d.roll(nodes), Code: api.Code{K: 1 + d.roll(nodes)}}
		s.Code.M = d.roll(nodes - s.Code.K + 1)
		p, _ := plate.New(of(&d, 60, 400, 1000))
		x := &alone{d: &d, setup: s, pair: openPair(t, d.roll(nodes), s, p, p.Copy())}
		for range 150 {
			if x.plate.Failed() && d.roll(15) == 0 {
				break
			}
			x.step()
		}
		x.same()
	}
}
