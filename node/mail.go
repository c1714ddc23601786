package node

import (
	"amphora/api"
	"amphora/clone"
)

// mail is what comes of a call: messages to other nodes, answers to clients,
// and messages to itself, which are taken ahead of the call's end.
type mail struct {
	self, nodes int
	out         []api.Msg
	own         []api.Msg
	told        []api.Told
}

// send has a message go where it is to. It shares nothing with others.
func (p *mail) send(m api.Msg) {
	m = clone.Msg(m)
	m.From = p.self
	if m.To == p.self {
		p.own = append(p.own, m)
	} else {
		p.out = append(p.out, m)
	}
}

// toAll sends a message to each node, itself included.
func (p *mail) toAll(m api.Msg) {
	for to := range p.nodes {
		m.To = to
		p.send(m)
	}
}

// toOthers sends a message to each other node.
func (p *mail) toOthers(m api.Msg) {
	for to := range p.nodes {
		if m.To = to; to != p.self {
			p.send(m)
		}
	}
}

// nextOwn takes the first message to itself; there is one.
func (p *mail) nextOwn() api.Msg {
	m := p.own[0]
	p.own = p.own[1:]
	return m
}

// tell has answers go to clients.
func (p *mail) tell(told ...api.Told) { p.told = append(p.told, told...) }

// handOut is what is to be sent and told. It is nobody else's from then on.
func (p *mail) handOut() ([]api.Msg, []api.Told) {
	out, told := p.out, p.told
	p.out, p.own, p.told = nil, nil, nil
	return out, told
}
