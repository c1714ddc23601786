package cluster_test

import (
	"bytes"
	"slices"
	"testing"

	"amphora/api"
	"amphora/epoch"
	"amphora/history"
	"amphora/plate"
	"amphora/shelf"
	"amphora/stripe"
)

// dice is numbers that look thrown, the same ones at each run.
type dice uint32

func (d *dice) roll(n int) int {
	*d = *d*1664525 + 1013904223
	return int(uint32(*d) >> 8 % uint32(n))
}

// of is one of some.
func of[T any](d *dice, l ...T) T { return l[d.roll(len(l))] }

// player thinks of steps for a cluster.
type player struct {
	*pair
	d      *dice
	wrong  bool // also such that no journal may have
	states map[int]*epoch.State
	last   int // the greatest slot that a node ever had
	lines  int // of the journal, when it was looked at last
}

func newPlayer(p *pair, d *dice) *player {
	return &player{pair: p, d: d, states: map[int]*epoch.State{}}
}

// key is one of few, so that calls meet.
func (p *player) key() string {
	if p.wrong && p.d.roll(20) == 0 {
		return of(p.d, "", "A", "too long a key")
	}
	return of(p.d, "a", "b", "c", "d")
}

// node is one that is there, mostly.
func (p *player) node() int {
	if p.wrong && p.d.roll(30) == 0 {
		return of(p.d, -1, p.like.setup.Nodes)
	}
	return p.d.roll(p.like.setup.Nodes)
}

// packet is the number of one that is on the way, mostly.
func (p *player) packet() int {
	l := p.like.post.Packets()
	if len(l) == 0 || p.wrong && p.d.roll(20) == 0 {
		return p.d.roll(50) - 1
	}
	return of(p.d, l...).ID
}

func (p *player) ask() api.Ask {
	a := api.Ask{ID: p.d.roll(9), Kind: of(p.d, api.AskPut, api.AskPut, api.AskGet, api.AskGet, api.AskGet, api.AskDelete), Key: p.key()}
	if p.wrong && p.d.roll(20) == 0 {
		a.Kind = p.d.roll(6) - 1
	}
	if a.Kind == api.AskPut || p.wrong && p.d.roll(20) == 0 {
		a.Bytes = make([]byte, p.d.roll(40))
		for i := range a.Bytes {
			a.Bytes[i] = byte(p.d.roll(256))
		}
	}
	return a
}

// order is a command that may change something.
func (p *player) order() api.Cmd {
	d, x := p.d, p.d.roll(p.like.setup.Nodes)
	switch d.roll(8) {
	case 0, 1:
		return api.Cmd{Kind: api.CmdMove, Key: p.key(), Index: d.roll(3), Node: x}
	case 2, 3:
		return api.Cmd{Kind: api.CmdRecode, Key: p.key(), Code: api.Code{K: 1 + d.roll(2), M: 1 + d.roll(2)}}
	case 4:
		return api.Cmd{Kind: of(d, api.CmdAdmit, api.CmdRetire), Node: x}
	case 5:
		c := api.Cmd{Kind: api.CmdVoters}
		for n := range p.like.setup.Nodes {
			if d.roll(2) == 0 {
				c.Nodes = append(c.Nodes, n)
			}
		}
		return c
	case 6:
		return api.Cmd{Kind: api.CmdWidth, Code: api.Code{K: 1 + d.roll(2), M: 1 + d.roll(2)}}
	}
	if p.wrong {
		return api.Cmd{Kind: d.roll(14), Key: p.key(), Node: x, Nodes: []int{x}, Blob: d.roll(99)}
	}
	return api.Cmd{Kind: api.CmdAdmit, Node: x}
}

// crash is of a node whose disk keeps some sectors.
func (p *player) crash(i int) api.Step {
	s := api.Step{Kind: api.StepCrash, Node: i, Torn: -1, Bytes: p.d.roll(api.Size + 1)}
	for _, sector := range p.real.Plate(i).Dirty() {
		if p.d.roll(2) == 0 {
			s.Keep = append(s.Keep, sector)
		}
		if p.d.roll(2) == 0 {
			s.Torn = sector
		}
	}
	return s
}

// step is one that a script may have.
func (p *player) step() api.Step {
	i := p.node()
	switch r := p.d.roll(100); {
	case p.wrong && r == 0:
		return api.Step{Kind: p.d.roll(14) - 1, Node: i, N: p.d.roll(600) - 150}
	case r < 8 && p.like.next < 60:
		return api.Step{Kind: api.StepAsk, Node: i, Ask: p.ask()}
	case r < 10:
		return api.Step{Kind: api.StepAdmin, Node: i, Cmd: p.order()}
	case r < 50:
		return api.Step{Kind: api.StepDeliver, Node: i, N: p.packet()}
	case r < 53:
		return api.Step{Kind: api.StepLose, Node: i, N: p.packet()}
	case r < 55:
		return api.Step{Kind: api.StepTwice, Node: i, N: p.packet()}
	case r < 85:
		return api.Step{Kind: api.StepTick, Node: i}
	case r < 86 && i >= 0 && i < p.like.setup.Nodes:
		return p.crash(i)
	case r < 93:
		return api.Step{Kind: api.StepStart, Node: i}
	}
	return api.Step{Kind: api.StepSettle, N: p.d.roll(8)}
}

// P21.2, P21.3: a cluster is the chapter's, over many scripts, with steps that
// are wrong among them.
func TestModel(t *testing.T) {
	errors := map[api.Errno]int{}
	for seed := range 60 {
		d := dice(seed)
		nodes := 1 + d.roll(5)
		s := setup(nodes, 1+d.roll(nodes), of(&d, 6, 60, 400, 2000), 1+d.roll(nodes), 0)
		s.Code.M = d.roll(nodes - s.Code.K + 1)
		p := newPlayer(newPair(t, s), &d)
		p.wrong = true
		for i := range 400 {
			errors[p.Do(p.step())]++
			if i%150 == 149 {
				errors[p.Do(api.Step{Kind: api.StepFail, Node: p.node()})]++
			}
		}
		p.same()
	}
	for _, e := range []api.Errno{api.OK, api.ErrArg, api.ErrDown, api.ErrPacket, api.ErrDrift, api.ErrDead} {
		if errors[e] < 3 {
			t.Errorf("%v was told %d times: too few to tell", e, errors[e])
		}
	}
}

// seen holds a cluster against P1, and P4: each state against those that nodes
// had at its slot.
func (p *player) seen() {
	p.t.Helper()
	if l := p.real.Journal(); len(l) > p.lines {
		p.lines = len(l)
		if !history.Check(l) {
			p.fail("the journal is not right: %+v", l)
		}
	}
	for i := range p.like.setup.Nodes {
		s := p.real.State(i)
		if s == nil {
			continue
		}
		other, ok := p.states[s.Slot()]
		if ok && !s.Same(other) {
			p.fail("node %d has another configuration at slot %d", i, s.Slot())
		}
		if ok {
			continue
		}
		p.states[s.Slot()] = s
		p.last = max(p.last, s.Slot())
		for slot, other := range p.states {
			if slot < s.Slot() && other.Epoch() > s.Epoch() || slot > s.Slot() && other.Epoch() < s.Epoch() {
				p.fail("an epoch falls between the slots %d and %d", slot, s.Slot())
			}
		}
	}
}

// held is the shards that a plate has for ever.
func (p *player) held(i int) map[[2]int][]byte {
	p.t.Helper()
	held := map[[2]int][]byte{}
	disk, e := plate.Of(p.real.Plate(i).Image())
	if e != api.OK {
		return held // it has failed
	}
	s, e := shelf.Open(disk)
	if e != api.OK {
		p.fail("the plate of %d: %v", i, e)
	}
	for _, h := range s.Held() {
		held[[2]int{h.Blob, h.Index}] = h.Bytes
	}
	return held
}

// nothingLost is P2: each blob that nobody asked to delete has K shards, and
// these are the bytes of a put of its key, whichever K are taken.
func (p *player) nothingLost() {
	p.t.Helper()
	s := p.states[p.last]
	var held []map[[2]int][]byte
	for i := range p.like.setup.Nodes {
		held = append(held, p.held(i))
	}
	journal := p.real.Journal()
	for _, key := range s.Keys() {
		if slices.ContainsFunc(journal, func(x api.Event) bool { return !x.Answer && x.Kind == api.AskDelete && x.Key == key }) {
			continue
		}
		b, _ := s.Blob(key)
		all, count := make([][]byte, len(b.Nodes)), 0
		for index, n := range b.Nodes {
			if shard, ok := held[n][[2]int{b.ID, index}]; ok {
				all[index] = shard
				count++
			}
		}
		whole, e := stripe.Join(b.Code, b.Size, all)
		if e != api.OK || count < b.Code.K || !slices.ContainsFunc(journal, func(x api.Event) bool {
			return !x.Answer && x.Kind == api.AskPut && x.Key == key && bytes.Equal(x.Bytes, whole)
		}) {
			p.fail("blob %+v of %q: %d shards, %x, %v", b, key, count, whole, e)
		}
		sound, _ := stripe.Cut(b.Code, whole)
		for index, shard := range all {
			if shard != nil && !bytes.Equal(shard, sound[index]) {
				p.fail("blob %+v of %q: shard %d is another one", b, key, index)
			}
		}
	}
}

// alive tells whether of each slot that somebody still has to learn more than
// half of the voters have a disk.
func (p *player) alive() bool {
	first := p.last
	for i := range p.like.setup.Nodes {
		if s := p.real.State(i); s != nil {
			first = min(first, s.Slot())
		}
	}
	for slot := first; slot <= p.last+api.Alpha; slot++ {
		voters := p.states[p.last].Voters(slot)
		count := 0
		for _, v := range voters {
			if !p.real.Plate(v).Failed() {
				count++
			}
		}
		if 2*count <= len(voters) {
			return false
		}
	}
	return true
}

// end starts all nodes that have a disk, tells them of the one that is lost,
// and settles till nothing is left to do.
func (p *player) end(lost int) {
	p.t.Helper()
	for i := range p.like.setup.Nodes {
		if p.real.State(i) == nil && i != lost {
			is(p.t, "start", p.at(api.StepStart, i), api.OK)
		}
	}
	p.settle(30)
	for i := range p.like.setup.Nodes {
		if lost >= 0 && i != lost {
			is(p.t, "fail", p.admin(i, api.Cmd{Kind: api.CmdFail, Node: lost}), api.OK)
		}
	}
	for range 20 {
		if p.settle(30); p.real.Busy() == 0 {
			return
		}
		p.seen()
	}
}

// unanswered is how many calls of nodes that ran ever since have no answer.
func (p *player) unanswered() int {
	open := map[int]int{}
	for _, x := range p.real.Journal() {
		if x.Answer {
			delete(open, x.ID)
		} else {
			open[x.ID] = 1
		}
	}
	return len(open)
}

// P1 to P5: many scripts, with all that may go wrong. In each second one a
// disk fails, and one shard of each blob may be lost.
func TestScripts(t *testing.T) {
	answers, alive := map[int]int{}, 0
	for seed := range 40 {
		d := dice(1000 + seed)
		nodes := 2 + d.roll(5)
		p := newPlayer(newPair(t, setup(nodes, 1+d.roll(nodes), 2000, 1+d.roll(nodes-1), 1)), &d)
		lost := -1
		for i := range 500 {
			p.Do(p.step())
			p.seen()
			if i%25 == 24 {
				p.nothingLost()
			}
			if i == 250 && seed%2 == 1 {
				lost = d.roll(nodes)
				is(t, "fail", p.at(api.StepFail, lost), api.OK)
				p.nothingLost()
			}
		}
		p.end(lost)
		p.seen()
		p.nothingLost()
		if p.alive() {
			alive++
			if p.real.Busy() > 0 {
				p.fail("seed %d: still busy: %d", seed, p.real.Busy())
			}
		}
		for _, x := range p.real.Journal() {
			if x.Answer {
				answers[x.Kind]++
			}
		}
		p.same()
	}
	for says := api.SaysOK; says <= api.SaysNot; says++ {
		if answers[says] < 15 {
			t.Errorf("%d was told %d times: too few to tell", says, answers[says])
		}
	}
	if alive < 25 {
		t.Errorf("%d clusters had enough voters at the end: too few to tell", alive)
	}
}

// P5: without crashes each call is answered in the end.
func TestEachCallIsAnswered(t *testing.T) {
	for seed := range 10 {
		d := dice(2000 + seed)
		nodes := 2 + d.roll(5)
		p := newPlayer(newPair(t, setup(nodes, 1+d.roll(nodes), 2000, 1+d.roll(nodes-1), 1)), &d)
		for range 300 {
			if s := p.step(); s.Kind != api.StepCrash {
				p.Do(s)
			}
		}
		p.end(-1)
		p.seen()
		if p.real.Busy() > 0 || p.unanswered() > 0 {
			p.fail("seed %d: busy %d, %d calls are not answered", seed, p.real.Busy(), p.unanswered())
		}
	}
}

// P3: what a crash leaves behind, whatever it keeps: shards and votes that were
// synced are there when the node is started again.
func TestPlatesBehindCrashes(t *testing.T) {
	for seed := range 20 {
		d := dice(3000 + seed)
		p := newPlayer(newPair(t, setup(3, 3, 400, 2, 1)), &d)
		for range 150 {
			p.Do(p.step())
			i := d.roll(3)
			if d.roll(10) > 0 || p.real.State(i) == nil {
				continue
			}
			before := p.held(i)
			is(t, "crash", p.Do(p.crash(i)), api.OK)
			is(t, "start", p.at(api.StepStart, i), api.OK)
			behind := p.held(i)
			for at, shard := range before {
				if !bytes.Equal(behind[at], shard) {
					p.fail("node %d lost the shard %v", i, at)
				}
			}
		}
		p.same()
	}
}
