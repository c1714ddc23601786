package node_test

import (
	"slices"

	"amphora/api"
	"amphora/chain"
	"amphora/coord"
	"amphora/epoch"
	"amphora/frame"
	"amphora/lead"
	"amphora/lease"
	"amphora/mover"
	"amphora/place"
	"amphora/plate"
	"amphora/recode"
	"amphora/shelf"
	"amphora/vote"
)

// plain is a node by the chapter's words, one behind the other.
type plain struct {
	self, size     int
	shelf          *shelf.Shelf
	acceptor       *vote.Acceptor
	chain          *chain.Chain
	state          *epoch.State
	list           *lease.List
	try            *lead.Try
	began          int
	highest        int
	leader         int
	heard, time, n int
	wants          []*plainWant
	queue          []api.Cmd
	calls          []*plainCall
	movers         []*plainMover
	recoders       []*plainRecoder
	messages       []api.Msg // those to itself too
	answers        []api.Told
}

type plainWant struct {
	cmd  api.Cmd
	sent int
}

type plainCall struct {
	id     int
	call   *coord.Call
	wanted int
}

type plainMover struct {
	mover *mover.Mover
	once  int
}

type plainRecoder struct {
	recoder *recode.Recoder
	once    int
}

func openPlain(self int, s api.Setup, p *plate.Plate) *plain {
	state, _ := epoch.New(s)
	x := &plain{self: self, size: s.Nodes, chain: chain.New(), state: state, list: lease.New(), leader: -1}
	x.shelf, _ = shelf.Open(p)
	x.acceptor, _ = vote.Open(x.shelf)
	x.highest = x.acceptor.Promised()
	return x
}

// number is a new one, or 0.
func (p *plain) number() int {
	if p.n+1 >= 65536 {
		return 0
	}
	p.n++
	return (p.shelf.Life()%(1<<38)*65536+p.n)*api.MaxNodes + p.self
}

func (p *plain) leads() bool {
	return p.try != nil && p.try.Leads(p.state.Voters(p.state.Slot()))
}

func (p *plain) send(m api.Msg) {
	m.From = p.self
	p.messages = append(p.messages, m)
}

func (p *plain) sendAll(l []api.Msg) {
	for _, m := range l {
		p.send(m)
	}
}

func (p *plain) to(m api.Msg, selfToo bool) {
	for i := range p.size {
		if i != p.self || selfToo {
			m.To = i
			p.send(m)
		}
	}
}

// end is the work, and the messages to itself, each with its work.
func (p *plain) end() ([]api.Msg, []api.Told, api.Errno) {
	p.work()
	for i := 0; i < len(p.messages); i++ {
		if p.messages[i].To == p.self {
			p.on(p.messages[i])
			p.work()
		}
	}
	out := slices.DeleteFunc(p.messages, func(m api.Msg) bool { return m.To == p.self })
	told := p.answers
	p.messages, p.answers = nil, nil
	return out, told, api.OK
}

func (p *plain) Ask(a api.Ask) ([]api.Msg, []api.Told, api.Errno) {
	if !p.ask(a) {
		p.answers = append(p.answers, api.Told{ID: a.ID, Says: api.SaysNot})
	}
	return p.end()
}

func (p *plain) ask(a api.Ask) bool {
	if len(p.calls) == 16 {
		return false
	}
	id := p.number()
	if id == 0 {
		return false
	}
	c, e := coord.New(p.self, a, id, p.time)
	if e != api.OK {
		return false
	}
	if a.Kind == api.AskPut {
		code := p.state.Code()
		nodes, e := place.Choose(p.state.Members(), id, code.K+code.M)
		if e != api.OK || c.Place(code, nodes) != api.OK {
			return false
		}
	}
	p.calls = append(p.calls, &plainCall{id: id, call: c})
	p.sendAll(c.Asks(p.state.Epoch()))
	return true
}

func (p *plain) Admin(c api.Cmd) ([]api.Msg, []api.Told, api.Errno) {
	if c.Kind != api.CmdMove && c.Kind != api.CmdRecode && (c.Kind < api.CmdAdmit || c.Kind > api.CmdWidth) {
		return nil, nil, api.ErrArg
	}
	if (c.Kind == api.CmdMove || c.Kind == api.CmdRecode) && len(c.Key) > 0 {
		b, _ := p.state.Blob(c.Key)
		c.Blob = b.ID
		c.Key = ""
	}
	n := p.n
	id := p.number()
	if c.Kind == api.CmdRecode && len(c.Nodes) == 0 {
		c.Nodes, _ = place.Choose(p.state.Members(), id, c.Code.K+c.Code.M)
	}
	if id == 0 {
		return nil, nil, api.ErrFull
	}
	c.ID = id
	if _, e := frame.Cmd(c); e != api.OK {
		p.n = n
		return nil, nil, api.ErrArg
	}
	p.want(c)
	return p.end()
}

func (p *plain) want(c api.Cmd) {
	w := &plainWant{cmd: c}
	p.wants = append(p.wants, w)
	p.sendWant(w)
}

func (p *plain) sendWant(w *plainWant) {
	w.sent = p.time
	if p.leads() {
		p.join(w.cmd)
	} else if p.leader >= 0 {
		p.send(api.Msg{Kind: api.MsgForward, To: p.leader, Cmd: w.cmd})
	}
}

func (p *plain) join(c api.Cmd) {
	for _, x := range p.queue {
		if x.ID == c.ID {
			return
		}
	}
	p.queue = append(p.queue, c)
}

func (p *plain) On(m api.Msg) ([]api.Msg, []api.Told, api.Errno) {
	p.on(m)
	return p.end()
}

func (p *plain) on(m api.Msg) {
	if _, e := frame.Msg(m); e != api.OK || m.To != p.self || m.From < 0 || m.From > p.size-1 {
		return
	}
	switch m.Kind {
	case api.MsgPrepare, api.MsgAccept, api.MsgRefuse, api.MsgBeat:
		if m.Ballot > p.highest {
			p.highest = m.Ballot
		}
		if p.try != nil && p.try.Ballot() < p.highest {
			p.try = nil
		}
	}
	switch m.Kind {
	case api.MsgPrepare, api.MsgPromise, api.MsgAccept, api.MsgAccepted:
		p.onVote(m)
	case api.MsgChosen:
		p.chain.Learn(m.Slot, m.Cmd)
	case api.MsgLearn:
		for i, c := range p.chain.From(m.Slot, 8) {
			p.send(api.Msg{Kind: api.MsgChosen, To: m.From, Slot: max(m.Slot, 1) + i, Cmd: c})
		}
	case api.MsgBeat:
		if m.Ballot == p.highest {
			p.leader, p.heard = m.From, p.time
			if m.Slot > p.chain.Next() {
				p.send(api.Msg{Kind: api.MsgLearn, To: m.From, Slot: p.chain.Next()})
			}
		}
	case api.MsgForward:
		if p.leads() {
			p.join(m.Cmd)
		}
	default:
		p.onShard(m)
	}
}

func (p *plain) onVote(m api.Msg) {
	refuse := api.Msg{Kind: api.MsgRefuse, To: m.From}
	switch m.Kind {
	case api.MsgPrepare:
		ok, votes, e := p.acceptor.Prepare(m.Ballot, m.Slot)
		refuse.Ballot = p.acceptor.Promised()
		if e == api.OK && ok {
			p.heard = p.time
			if len(votes) > 1000 {
				votes = votes[:1000]
			}
			p.send(api.Msg{Kind: api.MsgPromise, To: m.From, Ballot: m.Ballot, Slot: m.Slot, Votes: votes})
		} else if e == api.OK {
			p.send(refuse)
		}
	case api.MsgPromise:
		if p.try != nil && p.try.Ballot() == m.Ballot {
			p.try.Promise(m.From, m.Votes)
		}
	case api.MsgAccept:
		ok, e := p.acceptor.Accept(m.Ballot, m.Slot, m.Cmd)
		refuse.Ballot = p.acceptor.Promised()
		if e == api.OK && ok {
			p.leader, p.heard = m.From, p.time
			p.send(api.Msg{Kind: api.MsgAccepted, To: m.From, Ballot: m.Ballot, Slot: m.Slot})
		} else if e == api.OK {
			p.send(refuse)
		}
	case api.MsgAccepted:
		if p.try == nil || p.try.Ballot() != m.Ballot {
			return
		}
		p.try.Accepted(m.From, m.Slot)
		_, has := p.chain.Get(m.Slot)
		if p.try.Chosen(m.Slot, p.state.Voters(m.Slot)) && !has {
			c, _ := p.try.Proposed(m.Slot)
			p.chain.Learn(m.Slot, c)
			p.to(api.Msg{Kind: api.MsgChosen, Slot: m.Slot, Cmd: c}, false)
		}
	}
}

func (p *plain) onShard(m api.Msg) {
	answer := api.Msg{To: m.From, Blob: m.Blob, Index: m.Index, ID: m.ID}
	var e api.Errno
	switch m.Kind {
	case api.MsgStore:
		answer.Kind = api.MsgStored
		if e = p.shelf.Store(m.Blob, m.Index, m.Epoch, m.Bytes); e == api.OK {
			e = p.shelf.Sync()
		}
	case api.MsgFetch:
		answer.Kind = api.MsgFetched
		answer.Bytes, e = p.shelf.Fetch(m.Blob, m.Index, m.Epoch)
	case api.MsgFence:
		answer.Kind = api.MsgFenced
		if e = p.shelf.Fence(m.Blob, m.Index, m.Epoch); e == api.OK {
			e = p.shelf.Sync()
		}
	case api.MsgStored, api.MsgFetched, api.MsgFenced:
		for _, c := range p.calls {
			p.answers = append(p.answers, c.call.On(m, p.time)...)
		}
		p.close()
		for _, x := range p.movers {
			x.mover.On(m)
		}
		for _, x := range p.recoders {
			phase := x.recoder.Phase()
			x.recoder.On(m)
			if x.recoder.Phase() != phase {
				p.sendAll(x.recoder.Asks(p.state.Epoch()))
			}
		}
		return
	default:
		return
	}
	if e != api.ErrDead {
		answer.OK = e == api.OK
		p.send(answer)
	}
}

// close has calls that are done be open no more.
func (p *plain) close() {
	p.calls = slices.DeleteFunc(p.calls, func(c *plainCall) bool { return c.call.Done() })
}

func (p *plain) work() {
	for {
		c, ok := p.chain.Get(p.state.Slot())
		if !ok {
			break
		}
		p.apply(c)
	}
	for _, x := range p.calls {
		if c, ok := x.call.Cmd(); ok && x.wanted == 0 {
			x.wanted = 1
			p.want(c)
		}
	}
	p.workMoves()
	p.workRecodes()
	if p.try != nil {
		p.workLead()
	}
}

func (p *plain) apply(c api.Cmd) {
	ahead := p.state.Mine(p.self)
	out, _ := p.state.Apply(c)
	now := p.state.Mine(p.self)
	for _, x := range ahead {
		if !slices.Contains(now, x) {
			p.list.Retire(x[0], x[1], p.time)
		}
	}
	for _, x := range now {
		p.list.Keep(x[0], x[1])
	}
	if c.Kind == api.CmdPut && (out.Kind == api.OutThere || out.Kind == api.OutRefused) {
		for i, n := range c.Nodes {
			if n == p.self {
				p.list.Retire(c.ID, i, p.time)
			}
		}
	}
	p.wants = slices.DeleteFunc(p.wants, func(w *plainWant) bool { return w.cmd.ID == c.ID })
	p.queue = slices.DeleteFunc(p.queue, func(x api.Cmd) bool { return x.ID == c.ID })
	for _, x := range p.calls {
		if x.id == c.ID {
			p.answers = append(p.answers, x.call.Applied(out, p.time)...)
			p.sendAll(x.call.Asks(p.state.Epoch()))
		}
	}
	p.close()
}

func (p *plain) workMoves() {
	moves := p.state.Moves()
	p.movers = slices.DeleteFunc(p.movers, func(x *plainMover) bool { return !slices.Contains(moves, x.mover.Move()) })
	for _, m := range moves {
		has := slices.ContainsFunc(p.movers, func(x *plainMover) bool { return x.mover.Move() == m })
		if m.Node != p.self || has || len(p.movers) >= api.Movers {
			continue
		}
		b, _ := p.state.Find(m.Blob)
		x, e := mover.New(p.self, b, m.Index)
		if e != api.OK {
			continue
		}
		if shard, e := p.shelf.Fetch(m.Blob, m.Index, api.MaxNumber); e == api.OK {
			x.Have(shard)
		}
		p.movers = append(p.movers, &plainMover{mover: x})
		p.sendAll(x.Asks(p.state.Epoch()))
	}
	for _, x := range p.movers {
		m := x.mover.Move()
		if x.mover.Phase() == 2 {
			e := p.shelf.Store(m.Blob, m.Index, p.state.Epoch(), x.mover.Shard())
			if e == api.OK {
				e = p.shelf.Sync()
			}
			if e == api.OK {
				p.list.Keep(m.Blob, m.Index)
				x.mover.Stored(p.state.Epoch())
				p.sendAll(x.mover.Asks(p.state.Epoch()))
			}
		}
		b, _ := p.state.Find(m.Blob)
		if x.mover.Phase() == 3 && p.state.Failed(b.Nodes[m.Index]) {
			x.mover.Skip()
		}
		if x.mover.Phase() == 4 && x.once == 0 {
			x.once = 1
			if id := p.number(); id > 0 {
				p.want(api.Cmd{ID: id, Kind: api.CmdSwitch, Blob: m.Blob, Index: m.Index, Node: m.Node})
			}
		}
	}
}

func (p *plain) workRecodes() {
	recodes := p.state.Recodes()
	same := func(x *plainRecoder, r api.Recode) bool {
		have := x.recoder.Recode()
		return have.Blob == r.Blob && have.Other == r.Other && have.Code == r.Code && slices.Equal(have.Nodes, r.Nodes)
	}
	p.recoders = slices.DeleteFunc(p.recoders, func(x *plainRecoder) bool {
		return !slices.ContainsFunc(recodes, func(r api.Recode) bool { return same(x, r) })
	})
	for _, r := range recodes {
		has := slices.ContainsFunc(p.recoders, func(x *plainRecoder) bool { return same(x, r) })
		if r.Other%api.MaxNodes != p.self || has {
			continue
		}
		b, _ := p.state.Find(r.Blob)
		if x, e := recode.New(p.self, b, r); e == api.OK {
			p.recoders = append(p.recoders, &plainRecoder{recoder: x})
			p.sendAll(x.Asks(p.state.Epoch()))
		}
	}
	for _, x := range p.recoders {
		if x.recoder.Phase() == 3 && x.once == 0 {
			x.once = 1
			r := x.recoder.Recode()
			if id := p.number(); id > 0 {
				p.want(api.Cmd{ID: id, Kind: api.CmdRecast, Blob: r.Blob, Other: r.Other})
			}
		}
	}
}

func (p *plain) workLead() {
	for i := range api.Alpha {
		slot := p.state.Slot() + i
		if _, ok := p.chain.Get(slot); ok {
			continue
		}
		if _, ok := p.try.Proposed(slot); ok {
			continue
		}
		if !p.try.Leads(p.state.Voters(slot)) {
			break
		}
		c, ok := p.try.Bound(slot)
		if !ok && slot >= p.try.Next() {
			i := slices.IndexFunc(p.queue, func(c api.Cmd) bool { return !p.open(c.ID) })
			if i < 0 {
				break
			}
			c = p.queue[i]
		}
		p.try.Propose(slot, c)
		p.to(api.Msg{Kind: api.MsgAccept, Ballot: p.try.Ballot(), Slot: slot, Cmd: c}, true)
	}
}

// open tells whether a command is proposed in an open slot.
func (p *plain) open(id int) bool {
	for _, slot := range p.try.Open() {
		if c, _ := p.try.Proposed(slot); c.ID == id {
			return true
		}
	}
	return false
}

func (p *plain) Tick() ([]api.Msg, []api.Told, api.Errno) {
	p.time++
	for _, c := range p.calls {
		p.answers = append(p.answers, c.call.Tick(p.time)...)
	}
	p.close()
	due := p.list.Due(p.time)
	for _, x := range due {
		p.shelf.Drop(x[0], x[1])
	}
	if len(due) > 0 {
		p.shelf.Sync()
	}
	if p.time%api.Again == 0 {
		for _, c := range p.calls {
			p.sendAll(c.call.Asks(p.state.Epoch()))
		}
		for _, x := range p.movers {
			p.sendAll(x.mover.Asks(p.state.Epoch()))
		}
		for _, x := range p.recoders {
			p.sendAll(x.recoder.Asks(p.state.Epoch()))
		}
	}
	for _, w := range p.wants {
		if p.time-w.sent >= api.Again {
			p.sendWant(w)
		}
	}
	p.tickLead()
	return p.end()
}

func (p *plain) tickLead() {
	if p.leads() {
		p.heard = p.time
		if p.time%api.BeatTime == 0 {
			p.to(api.Msg{Kind: api.MsgBeat, Ballot: p.try.Ballot(), Slot: p.chain.Next()}, false)
			for _, slot := range p.try.Open() {
				if _, ok := p.chain.Get(slot); !ok {
					c, _ := p.try.Proposed(slot)
					p.to(api.Msg{Kind: api.MsgAccept, Ballot: p.try.Ballot(), Slot: slot, Cmd: c}, true)
				}
			}
		}
	} else if p.try != nil && p.time-p.began >= api.Again {
		p.try, p.heard = nil, p.time
	}
	if p.try == nil && p.time-p.heard >= 10+4*p.self {
		for b := p.highest + 1; b <= api.MaxNumber; b++ {
			if b%api.MaxNodes == p.self {
				p.try, _ = lead.New(b, p.chain.Next())
				p.highest, p.began = b, p.time
				p.to(api.Msg{Kind: api.MsgPrepare, Ballot: b, Slot: p.chain.Next()}, true)
				break
			}
		}
	}
}

func (p *plain) Busy() int {
	busy := len(p.calls) + len(p.wants)
	for _, m := range p.state.Moves() {
		if m.Node == p.self {
			busy++
		}
	}
	for _, r := range p.state.Recodes() {
		if r.Other%api.MaxNodes == p.self {
			busy++
		}
	}
	return busy
}
