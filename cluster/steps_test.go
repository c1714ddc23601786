package cluster_test

import (
	"bytes"
	"fmt"
	"slices"
	"testing"

	"amphora/api"
	"amphora/drift"
	"amphora/plate"
)

// three is a cluster in which node 0 leads.
func three(t *testing.T) *pair {
	t.Helper()
	p := newPair(t, setup(3, 3, 400, 2, 1))
	p.settle(20)
	return p
}

// text is all that a cluster tells.
func (p *pair) text() string {
	s := fmt.Sprintf("%+v %+v %d", p.real.Journal(), p.real.Packets(), p.real.Busy())
	for i := range p.like.setup.Nodes {
		s += fmt.Sprint(" ", p.real.Now(i), p.real.State(i) == nil, p.real.Plate(i).Dirty(), p.real.Plate(i).Image())
	}
	return s
}

// refused has a step be refused, and change nothing.
func (p *pair) refused(s api.Step, want api.Errno) {
	p.t.Helper()
	before := p.text()
	if e := p.Do(s); e != want || p.text() != before {
		p.fail("%+v: %v, want %v, or something has changed", s, e, want)
	}
	p.same()
}

// named are the kinds of steps that name a node.
func named() []int {
	return []int{api.StepAsk, api.StepAdmin, api.StepTick, api.StepCrash, api.StepStart, api.StepFail}
}

// P21.2: kinds that are none.
func TestKinds(t *testing.T) {
	p := three(t)
	for _, kind := range []int{-1 << 63, -1, 0, 11, 12, 100, 1<<63 - 1} {
		for _, i := range []int{-1, 0, 3} {
			p.refused(api.Step{Kind: kind, Node: i}, api.ErrArg)
		}
	}
}

// P21.2: nodes that are none, of the steps that name one; those that run, and
// those that do not.
func TestNodes(t *testing.T) {
	for _, kind := range named() {
		p := three(t)
		for _, i := range []int{-1 << 63, -1, 3, 16, 1<<63 - 1} {
			p.refused(api.Step{Kind: kind, Node: i}, api.ErrArg)
		}
		for _, i := range []int{0, 2} {
			want := api.OK
			if kind == api.StepStart {
				want = api.ErrDown
			}
			is(t, "a node that runs", p.Do(api.Step{Kind: kind, Node: i, Cmd: api.Cmd{Kind: api.CmdRetire, Node: 1}}), want)
			p.same()
		}
	}
	for _, kind := range named() {
		p := three(t)
		is(t, "crash", p.at(api.StepCrash, 1), api.OK)
		switch kind {
		case api.StepAsk, api.StepAdmin, api.StepCrash:
			p.refused(api.Step{Kind: kind, Node: 1, Cmd: api.Cmd{Kind: api.CmdRetire}}, api.ErrDown)
			p.refused(api.Step{Kind: kind, Node: 1}, api.ErrDown) // ahead of what the node would say
		default:
			is(t, "a node that does not run", p.Do(api.Step{Kind: kind, Node: 1}), api.OK)
			p.same()
		}
	}
}

// P21.2: steps that name no node do not look at it.
func TestNodeOfOthers(t *testing.T) {
	for _, i := range []int{-1 << 63, -1, 1, 3, 1<<63 - 1} {
		for _, kind := range []int{api.StepDeliver, api.StepLose, api.StepTwice, api.StepSettle} {
			p := three(t)
			id := p.real.Packets()[0].ID
			if kind == api.StepSettle {
				id = 3
			}
			is(t, "a step", p.Do(api.Step{Kind: kind, Node: i, N: id}), api.OK)
			p.same()
		}
	}
}

// P21.2, StepAsk: numbers are counted from 1 on, those of calls that can't be
// done too, but not those of nodes that do not run.
func TestNumbersOfCalls(t *testing.T) {
	p := three(t)
	is(t, "crash", p.at(api.StepCrash, 1), api.OK)
	a := api.Ask{ID: 77, Kind: api.AskGet, Key: "a"}
	is(t, "ask", p.Do(api.Step{Kind: api.StepAsk, Node: 0, Ask: a}), api.OK)
	p.refused(api.Step{Kind: api.StepAsk, Node: 1, Ask: a}, api.ErrDown)
	p.refused(api.Step{Kind: api.StepAsk, Node: 3, Ask: a}, api.ErrArg)
	is(t, "ask", p.Do(api.Step{Kind: api.StepAsk, Node: 0, Ask: api.Ask{Kind: 9, Key: "?", Bytes: []byte{1}}}), api.OK)
	is(t, "ask", p.Do(api.Step{Kind: api.StepAsk, Node: 2, Ask: a}), api.OK)
	is(t, "ask", p.Do(api.Step{Kind: api.StepAsk, Node: 0, Ask: api.Ask{}}), api.OK)
	want := []api.Event{
		{ID: 1, Kind: api.AskGet, Key: "a"},
		{ID: 2, Kind: 9, Key: "?", Bytes: []byte{1}}, {Answer: true, ID: 2, Kind: api.SaysNot},
		{ID: 3, Kind: api.AskGet, Key: "a"},
		{ID: 4}, {Answer: true, ID: 4, Kind: api.SaysNot},
	}
	if got := p.real.Journal(); fmt.Sprintf("%+v", got) != fmt.Sprintf("%+v", want) {
		t.Fatalf("%+v", got)
	}
	p.settle(10)
	if says, _ := p.told(1); says != api.SaysMissing {
		t.Fatalf("told %d", says)
	}
}

// P21.2, StepAsk: a node that has enough calls says so of each further one.
func TestManyCalls(t *testing.T) {
	p := newPair(t, setup(2, 2, 400, 1, 0))
	for id := 1; id <= 20; id++ {
		is(t, "ask", p.ask(1, api.AskGet, "a", nil), api.OK)
		want := 0
		if id > 16 {
			want = api.SaysNot
		}
		if says, _ := p.told(id); says != want {
			t.Fatalf("call %d is told %d", id, says)
		}
	}
	p.same()
}

// P21.2, StepAdmin: the node's error.
func TestAdmin(t *testing.T) {
	p := three(t)
	for _, kind := range []int{-1, api.CmdNop, api.CmdPut, api.CmdGet, api.CmdDelete, api.CmdSwitch, api.CmdRecast, 13} {
		p.refused(api.Step{Kind: api.StepAdmin, Node: 2, Cmd: api.Cmd{Kind: kind, Key: "a"}}, api.ErrArg)
	}
	p.refused(api.Step{Kind: api.StepAdmin, Node: 2, Cmd: api.Cmd{Kind: api.CmdRetire, Node: -1}}, api.ErrArg)
	is(t, "retire", p.admin(2, api.Cmd{Kind: api.CmdRetire, Node: 0}), api.OK)
	if p.real.Busy() != 1 {
		t.Fatalf("busy %d", p.real.Busy())
	}
	p.settle(10)
	if got := p.real.State(1).Members(); !slices.Equal(got, []int{1, 2}) || p.real.Busy() != 0 {
		t.Fatalf("members %v, busy %d", got, p.real.Busy())
	}
}

// P21.2, StepDeliver, StepLose, StepTwice: packets that are not there, the
// first and the last.
func TestPackets(t *testing.T) {
	p := three(t)
	p.ask(2, api.AskGet, "a", nil)
	for len(p.real.Packets()) < 6 {
		is(t, "twice", p.of(api.StepTwice, p.real.Packets()[0].ID), api.OK)
	}
	l := p.real.Packets()
	last := l[len(l)-1].ID
	for _, kind := range []int{api.StepDeliver, api.StepLose, api.StepTwice} {
		for _, n := range []int{-1 << 63, -1, 0, 1, l[0].ID - 1, last + 1, 1<<63 - 1} {
			p.refused(api.Step{Kind: kind, N: n}, api.ErrPacket)
		}
	}
	is(t, "twice the first", p.of(api.StepTwice, l[0].ID), api.OK)
	is(t, "twice the last", p.of(api.StepTwice, last+1), api.OK)
	is(t, "lose the first", p.of(api.StepLose, l[0].ID), api.OK)
	is(t, "lose the last", p.of(api.StepLose, last+2), api.OK)
	is(t, "deliver the first", p.of(api.StepDeliver, l[1].ID), api.OK)
	is(t, "deliver the last", p.of(api.StepDeliver, last+1), api.OK)
	p.same()
	for _, id := range []int{l[0].ID, l[1].ID, last + 1, last + 2} {
		for _, kind := range []int{api.StepDeliver, api.StepLose, api.StepTwice} {
			p.refused(api.Step{Kind: kind, N: id}, api.ErrPacket)
		}
	}
}

// P21.2, StepDeliver: what a packet's node answers is sent.
func TestDeliver(t *testing.T) {
	p := newPair(t, setup(2, 2, 400, 1, 0))
	for range 10 {
		is(t, "tick", p.at(api.StepTick, 0), api.OK)
		is(t, "tick", p.at(api.StepTick, 1), api.OK)
	}
	l := p.real.Packets()
	if len(l) != 1 || l[0].ID != 1 || l[0].Msg.Kind != api.MsgPrepare || l[0].Msg.To != 1 {
		t.Fatalf("packets %+v", l)
	}
	is(t, "deliver", p.of(api.StepDeliver, 1), api.OK)
	if l = p.real.Packets(); len(l) != 1 || l[0].ID != 2 || l[0].Msg.Kind != api.MsgPromise || l[0].Msg.To != 0 {
		t.Fatalf("packets %+v", l)
	}
	is(t, "lose", p.of(api.StepLose, 2), api.OK)
	if len(p.real.Packets()) != 0 {
		t.Fatal("a packet that is lost is on the way")
	}
	p.same()
}

// P21.2, StepDeliver: a packet to a node that does not run is gone, and nobody
// hears it.
func TestDeliverToNobody(t *testing.T) {
	for _, kind := range []int{api.StepCrash, api.StepFail} {
		p := three(t)
		p.ask(2, api.AskGet, "a", nil) // it tells the leader
		is(t, "end", p.at(kind, 0), api.OK)
		before := len(p.real.Packets())
		at := slices.IndexFunc(p.real.Packets(), func(x api.Sent) bool { return x.Msg.To == 0 })
		is(t, "deliver", p.of(api.StepDeliver, p.real.Packets()[at].ID), api.OK)
		if len(p.real.Packets()) != before-1 {
			t.Fatal("it is on the way, or was heard")
		}
		p.same()
	}
}

// fill doubles a packet till the post is full.
func (p *pair) fill() {
	p.t.Helper()
	id := p.real.Packets()[0].ID
	for {
		e := p.real.Do(api.Step{Kind: api.StepTwice, N: id})
		if want := p.like.Do(api.Step{Kind: api.StepTwice, N: id}); e != want {
			p.fail("twice: %v, want %v", e, want)
		}
		if e == api.ErrFull {
			return
		}
	}
}

// P21.2: of a full post what a node sends is lost, and nothing else.
func TestFullPost(t *testing.T) {
	p := three(t)
	p.fill()
	if len(p.real.Packets()) != api.MaxPackets {
		t.Fatalf("%d packets", len(p.real.Packets()))
	}
	p.refused(api.Step{Kind: api.StepTwice, N: p.real.Packets()[0].ID}, api.ErrFull)
	p.refused(api.Step{Kind: api.StepTwice, N: 0}, api.ErrPacket)
	last := p.real.Packets()[api.MaxPackets-1].ID
	is(t, "ask", p.ask(2, api.AskGet, "a", nil), api.OK)
	is(t, "admin", p.admin(1, api.Cmd{Kind: api.CmdRetire, Node: 0}), api.OK)
	for i := range 3 {
		is(t, "tick", p.at(api.StepTick, i), api.OK)
	}
	if l := p.real.Packets(); len(l) != api.MaxPackets || l[api.MaxPackets-1].ID != last || len(p.real.Journal()) != 1 {
		t.Fatal("a packet was sent, or a call is not in the journal")
	}
	p.same()
	is(t, "lose", p.of(api.StepLose, last), api.OK)
	is(t, "ask", p.ask(2, api.AskPut, "b", []byte{1}), api.OK) // two stores to others: one has room
	if l := p.real.Packets(); len(l) != api.MaxPackets || l[api.MaxPackets-1].ID != last+1 || l[api.MaxPackets-1].Msg.Kind != api.MsgStore {
		t.Fatal("there is room for one")
	}
	p.settle(1)
	p.same()
	p.settle(40)
	p.same()
	for id := 1; id <= 2; id++ {
		if says, _ := p.told(id); says == 0 {
			t.Fatalf("call %d is not answered", id)
		}
	}
}

// P21.2, StepTick: a clock that may not tick, and its node with it.
func TestTick(t *testing.T) {
	p := newPair(t, setup(2, 2, 400, 1, 0))
	for range api.Ahead {
		is(t, "tick", p.at(api.StepTick, 0), api.OK)
	}
	p.refused(api.Step{Kind: api.StepTick, Node: 0}, api.ErrDrift)
	is(t, "crash", p.at(api.StepCrash, 0), api.OK)
	p.refused(api.Step{Kind: api.StepTick, Node: 0}, api.ErrDrift)
	is(t, "tick", p.at(api.StepTick, 1), api.OK)
	is(t, "the clock of one that does not run", p.at(api.StepTick, 0), api.OK)
	is(t, "fail", p.at(api.StepFail, 0), api.OK)
	is(t, "the clock of one that has failed", p.at(api.StepTick, 0), api.OK)
	p.refused(api.Step{Kind: api.StepTick, Node: 0}, api.ErrDrift)
	if p.real.Now(0) != 4 || p.real.Now(1) != 1 {
		t.Fatalf("clocks %d, %d", p.real.Now(0), p.real.Now(1))
	}
}

// P21.2, StepTick: a node's own time begins anew with it, its clock does not.
func TestTimeOfANode(t *testing.T) {
	p := newPair(t, setup(1, 1, 400, 1, 0))
	p.settle(9)
	is(t, "crash", p.at(api.StepCrash, 0), api.OK)
	p.settle(9)
	is(t, "start", p.at(api.StepStart, 0), api.OK)
	p.settle(9)
	p.ask(0, api.AskPut, "a", nil) // it does not lead yet
	if says, _ := p.told(1); says != 0 || p.real.Now(0) != 27 {
		t.Fatalf("told %d at %d", says, p.real.Now(0))
	}
	is(t, "tick", p.at(api.StepTick, 0), api.OK)
	p.ask(0, api.AskPut, "b", nil) // it leads
	if says, _ := p.told(2); says != api.SaysOK {
		t.Fatalf("told %d", says)
	}
	p.same()
}

// P21.2, StepCrash: what the plate keeps is what Plate.Crash says: none, some,
// all, torn and not.
func TestCrash(t *testing.T) {
	for _, keep := range [][]int{nil, {}, {5}, {5, 5, 7}, {5, 6, 7}, {7, -1, 99}} {
		for _, torn := range []int{-1, 5, 6, 7, 400} {
			for _, n := range []int{-1, 0, 1, 33, api.Size, api.Size + 1} {
				p := newPair(t, setup(2, 1, 20, 1, 0))
				disk := p.real.Plate(1)
				for i := 5; i < 8; i++ {
					sector := bytes.Repeat([]byte{byte(i)}, api.Size)
					is(t, "write", disk.Write(i, sector), api.OK)
					is(t, "write", p.like.plates[1].Write(i, sector), api.OK)
				}
				want := disk.Copy()
				is(t, "crash", want.Crash(keep, torn, n), api.OK)
				is(t, "step", p.Do(api.Step{Kind: api.StepCrash, Node: 1, Keep: keep, Torn: torn, Bytes: n}), api.OK)
				if disk != p.real.Plate(1) || !slices.EqualFunc(disk.Image(), want.Image(), bytes.Equal) || len(disk.Dirty()) != 0 {
					t.Fatalf("crash %v, %d, %d keeps something else", keep, torn, n)
				}
				if p.real.State(1) != nil || p.real.State(0) == nil {
					t.Fatal("another node runs")
				}
				p.same()
			}
		}
	}
}

// P21.2, StepStart: a node that is started again has what its plate holds, and
// no call of its life ahead.
func TestStart(t *testing.T) {
	p := three(t)
	p.ask(1, api.AskPut, "a", whole(20))
	p.settle(10)
	p.ask(1, api.AskGet, "a", nil)
	is(t, "crash", p.at(api.StepCrash, 1), api.OK)
	is(t, "start", p.at(api.StepStart, 1), api.OK)
	p.refused(api.Step{Kind: api.StepStart, Node: 1}, api.ErrDown)
	if p.real.State(1).Slot() != 1 || p.real.Busy() != 0 {
		t.Fatalf("slot %d, busy %d", p.real.State(1).Slot(), p.real.Busy())
	}
	p.settle(80)
	if says, _ := p.told(2); says != 0 {
		t.Fatalf("a call of a life ahead is told %d", says)
	}
	if !p.real.State(1).Same(p.real.State(0)) {
		t.Fatal("it has not learned what was chosen")
	}
	p.ask(1, api.AskGet, "a", nil)
	p.settle(10)
	if says, b := p.told(3); says != api.SaysOK || !bytes.Equal(b, whole(20)) {
		t.Fatalf("told %d, %x", says, b)
	}
	p.same()
}

// P21.2, StepStart: the errors of node.Open.
func TestStartOnOtherPlates(t *testing.T) {
	p := three(t)
	is(t, "fail", p.at(api.StepFail, 1), api.OK)
	p.refused(api.Step{Kind: api.StepStart, Node: 1}, api.ErrDead)
	is(t, "crash", p.at(api.StepCrash, 2), api.OK)
	for _, disk := range []*plate.Plate{p.real.Plate(2), p.like.plates[2]} {
		for i := range 2 {
			disk.Write(i, bytes.Repeat([]byte{1}, api.Size))
		}
		disk.Sync()
	}
	p.refused(api.Step{Kind: api.StepStart, Node: 2}, api.ErrLog)
	p.settle(5)
	p.refused(api.Step{Kind: api.StepStart, Node: 2}, api.ErrLog)
}

// P21.2, StepFail: of nodes that run, of nodes that do not, and twice.
func TestFail(t *testing.T) {
	p := three(t)
	is(t, "fail", p.at(api.StepFail, 0), api.OK)
	is(t, "crash", p.at(api.StepCrash, 2), api.OK)
	is(t, "fail", p.at(api.StepFail, 2), api.OK)
	for _, i := range []int{0, 2} {
		if p.real.State(i) != nil || !p.real.Plate(i).Failed() {
			t.Fatalf("node %d runs, or has a disk", i)
		}
		p.refused(api.Step{Kind: api.StepFail, Node: i}, api.ErrDead)
		p.refused(api.Step{Kind: api.StepCrash, Node: i}, api.ErrDown)
		p.refused(api.Step{Kind: api.StepStart, Node: i}, api.ErrDead)
	}
	if p.real.State(1) == nil || p.real.Plate(1).Failed() {
		t.Fatal("node 1 does not run any more")
	}
}

// Plate is the plate itself: a disk that somebody fails by it has failed, and
// its node runs till a step ends it.
func TestDiskThatFailsByHand(t *testing.T) {
	p := three(t)
	is(t, "Fail", p.real.Plate(1).Fail(), api.OK)
	is(t, "Fail", p.like.plates[1].Fail(), api.OK)
	p.settle(30)
	p.refused(api.Step{Kind: api.StepFail, Node: 1}, api.ErrDead)
	p.refused(api.Step{Kind: api.StepStart, Node: 1}, api.ErrDown)
	if p.real.State(1) == nil {
		t.Fatal("it does not run any more")
	}
	is(t, "crash", p.at(api.StepCrash, 1), api.OK)
	p.refused(api.Step{Kind: api.StepStart, Node: 1}, api.ErrDead)
}

// P21.2, StepSettle: how many rounds there may be.
func TestRounds(t *testing.T) {
	p := three(t)
	for _, n := range []int{-1 << 63, -1, 301, 1<<63 - 1} {
		p.refused(api.Step{Kind: api.StepSettle, N: n}, api.ErrArg)
	}
	p.refused(api.Step{Kind: api.StepSettle, N: 0}, api.OK)
	for _, n := range []int{1, 300} {
		before := p.real.Now(1)
		p.settle(n)
		if p.real.Now(1) != before+n {
			t.Fatalf("%d rounds: %d behind %d", n, p.real.Now(1), before)
		}
		p.same()
	}
}

// P21.2, StepSettle: two rounds at once are one and another one.
func TestTwoRounds(t *testing.T) {
	one, other := three(t), three(t)
	for _, p := range []*pair{one, other} {
		p.ask(2, api.AskPut, "a", whole(9))
		is(t, "tick", p.at(api.StepTick, 1), api.OK)
	}
	for range 12 {
		one.settle(2)
		other.settle(1)
		other.settle(1)
		if one.text() != other.text() {
			t.Fatal("two rounds at once are others")
		}
	}
	if says, _ := one.told(1); says != api.SaysOK {
		t.Fatalf("told %d", says)
	}
}

// P21.2, StepSettle: packets by their numbers; those that come up in a round's
// midst stay for the next one; then the nodes tick, one by one.
func TestRound(t *testing.T) {
	p, steps := three(t), three(t)
	for _, x := range []*pair{p, steps} {
		x.ask(1, api.AskPut, "a", whole(9))
		x.ask(2, api.AskPut, "b", whole(9))
	}
	for range 10 {
		l := steps.real.Packets()
		for _, x := range l {
			is(t, "deliver", steps.of(api.StepDeliver, x.ID), api.OK)
		}
		for i := range 3 {
			is(t, "tick", steps.at(api.StepTick, i), api.OK)
		}
		p.settle(1)
		if p.text() != steps.text() {
			t.Fatal("a round is not its steps")
		}
		last := 0
		if len(l) > 0 {
			last = l[len(l)-1].ID
		}
		for _, x := range p.real.Packets() {
			if x.ID <= last {
				t.Fatalf("packet %d was not delivered", x.ID)
			}
		}
	}
	if says, _ := p.told(2); says != api.SaysOK {
		t.Fatalf("told %d", says)
	}
}

// P21.2, StepSettle: a clock that may not tick is passed by.
func TestRoundWithClocksAhead(t *testing.T) {
	p := newPair(t, setup(3, 3, 400, 1, 0))
	clocks, _ := drift.New(3)
	tick := func(i int) {
		is(t, "tick", p.at(api.StepTick, i), clocks.Tick(i))
	}
	tick(0)
	tick(0)
	tick(2)
	tick(2)
	for range 6 {
		p.settle(1)
		for i := range 3 {
			clocks.Tick(i)
		}
		for i := range 3 {
			if p.real.Now(i) != clocks.Now(i) {
				t.Fatalf("clock %d tells %d, want %d", i, p.real.Now(i), clocks.Now(i))
			}
		}
	}
	if p.real.Now(0) == p.real.Now(1)+2 {
		t.Fatal("no clock was passed by")
	}
}

// P21.3: the journal has calls and answers as they came.
func TestJournal(t *testing.T) {
	p := newPair(t, setup(1, 1, 400, 1, 0))
	p.ask(0, api.AskGet, "a", nil) // nobody leads yet
	p.ask(0, api.AskPut, "a", []byte("xy"))
	p.settle(20)
	p.ask(0, api.AskPut, "a", []byte("z"))
	p.ask(0, api.AskGet, "a", nil)
	p.ask(0, api.AskDelete, "a", nil)
	p.ask(0, api.AskDelete, "a", nil)
	p.ask(0, api.AskPut, "A", nil)
	want := []api.Event{
		{ID: 1, Kind: api.AskGet, Key: "a"}, {ID: 2, Kind: api.AskPut, Key: "a", Bytes: []byte("xy")},
		{Answer: true, ID: 1, Kind: api.SaysMissing}, {Answer: true, ID: 2, Kind: api.SaysOK},
		{ID: 3, Kind: api.AskPut, Key: "a", Bytes: []byte("z")}, {Answer: true, ID: 3, Kind: api.SaysThere},
		{ID: 4, Kind: api.AskGet, Key: "a"}, {Answer: true, ID: 4, Kind: api.SaysOK, Bytes: []byte("xy")},
		{ID: 5, Kind: api.AskDelete, Key: "a"}, {Answer: true, ID: 5, Kind: api.SaysOK},
		{ID: 6, Kind: api.AskDelete, Key: "a"}, {Answer: true, ID: 6, Kind: api.SaysMissing},
		{ID: 7, Kind: api.AskPut, Key: "A"}, {Answer: true, ID: 7, Kind: api.SaysNot},
	}
	if got := p.real.Journal(); fmt.Sprintf("%+v", got) != fmt.Sprintf("%+v", want) {
		t.Fatalf("%+v", got)
	}
	p.same()
}

// whole is a blob's bytes.
func whole(size int) []byte {
	b := make([]byte, size)
	for i := range b {
		b[i] = byte(i*37 + 1)
	}
	return b
}
