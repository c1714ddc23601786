package cluster_test

import (
	"bytes"
	"slices"
	"testing"

	"amphora/api"
)

// six is six nodes, of which three vote, and three shards of each blob.
func six(t *testing.T) *pair {
	t.Helper()
	p := newPair(t, setup(6, 3, 800, 2, 1))
	p.settle(15)
	return p
}

// call is what a call at a node is told.
func (p *pair) call(i, kind int, key string, b []byte) (int, []byte) {
	p.t.Helper()
	is(p.t, "ask", p.ask(i, kind, key, b), api.OK)
	p.settle(30)
	return p.told(p.like.next - 1)
}

func (p *pair) puts(i int, key string, b []byte) {
	p.t.Helper()
	if says, _ := p.call(i, api.AskPut, key, b); says != api.SaysOK {
		p.fail("put of %q at %d: %d", key, i, says)
	}
}

func (p *pair) tells(i int, key string, want []byte) {
	p.t.Helper()
	if says, b := p.call(i, api.AskGet, key, nil); says != api.SaysOK || !bytes.Equal(b, want) {
		p.fail("get of %q at %d: %d, %x", key, i, says, b)
	}
}

// blob is a key's, as the furthest configuration has it.
func (p *pair) blob(key string) api.Blob {
	b, _ := p.furthest().Blob(key)
	return b
}

// sound is P1 and P2.
func (p *pair) sound() {
	p.t.Helper()
	x := newPlayer(p, nil)
	x.seen()
	x.nothingLost()
}

// Example 1 of the whole: three nodes, two of them down: a put is given up.
func TestTwoDown(t *testing.T) {
	p := newPair(t, setup(3, 3, 400, 1, 0))
	p.settle(15)
	for i := 1; i < 3; i++ {
		is(t, "crash", p.at(api.StepCrash, i), api.OK)
	}
	is(t, "put", p.ask(0, api.AskPut, "a", whole(3)), api.OK)
	p.settle(api.CallTime)
	if says, _ := p.told(1); says != api.SaysTimeout {
		t.Fatalf("told %d", says)
	}
	p.same()
}

// Examples 2 and 3: a disk fails: a get tells the bytes; then its shards are
// reckoned anew on a spare node.
func TestDiskFails(t *testing.T) {
	p := six(t)
	p.puts(5, "a", whole(20))
	old := p.blob("a")
	if len(old.Nodes) != 3 || old.Code != (api.Code{K: 2, M: 1}) {
		t.Fatalf("blob %+v", old)
	}
	lost := old.Nodes[1]
	is(t, "fail", p.at(api.StepFail, lost), api.OK)
	at := (lost + 1) % 6
	p.tells(at, "a", whole(20))
	is(t, "admin", p.admin(at, api.Cmd{Kind: api.CmdFail, Node: lost}), api.OK)
	p.settle(60)
	if b := p.blob("a"); slices.Contains(b.Nodes, lost) || p.real.Busy() != 0 {
		t.Fatalf("blob %+v, busy %d", b, p.real.Busy())
	}
	p.sound()
	p.tells(at, "a", whole(20))
}

// Example 4: a move that a crash interrupts goes on when the node is started
// again.
func TestMoveThatIsInterrupted(t *testing.T) {
	for rounds := range 8 {
		p := six(t)
		p.puts(0, "a", whole(20))
		old := p.blob("a")
		to := slices.IndexFunc([]int{0, 1, 2, 3, 4, 5}, func(n int) bool { return !slices.Contains(old.Nodes, n) })
		is(t, "move", p.admin(1, api.Cmd{Kind: api.CmdMove, Key: "a", Index: 2, Node: to}), api.OK)
		p.settle(rounds)
		is(t, "crash", p.at(api.StepCrash, to), api.OK)
		p.settle(10)
		is(t, "start", p.at(api.StepStart, to), api.OK)
		p.settle(90)
		if b := p.blob("a"); b.Nodes[2] != to || p.real.Busy() != 0 {
			t.Fatalf("behind %d rounds: blob %+v, busy %d", rounds, b, p.real.Busy())
		}
		p.sound()
		p.tells(to, "a", whole(20))
	}
}

// Example 5: of two puts of one key one is told that it is there.
func TestTwoPuts(t *testing.T) {
	p := six(t)
	p.ask(1, api.AskPut, "a", whole(20))
	p.ask(4, api.AskPut, "a", whole(5))
	p.settle(30)
	one, _ := p.told(1)
	two, _ := p.told(2)
	if one+two != api.SaysOK+api.SaysThere || one == two {
		t.Fatalf("told %d and %d", one, two)
	}
	size := 20
	if two == api.SaysOK {
		size = 5
	}
	p.tells(3, "a", whole(size))
	p.sound()
}

// Example 6: a get whose answers are late is not answered with bytes.
func TestLateAnswers(t *testing.T) {
	p := six(t)
	p.puts(0, "a", whole(20))
	by := slices.IndexFunc([]int{0, 1, 2, 3, 4, 5}, func(n int) bool { return !slices.Contains(p.blob("a").Nodes, n) })
	is(t, "get", p.ask(by, api.AskGet, "a", nil), api.OK)
	for range api.LeaseTime + 1 {
		p.roundBut(func(m api.Msg) bool { return m.Kind == api.MsgFetched })
	}
	if says, _ := p.told(2); says != 0 {
		t.Fatalf("told %d ahead of all answers", says)
	}
	for _, x := range p.real.Packets() {
		if x.Msg.Kind == api.MsgFetched {
			is(t, "deliver", p.of(api.StepDeliver, x.ID), api.OK)
		}
	}
	if says, b := p.told(2); says != api.SaysNot || len(b) != 0 {
		t.Fatalf("told %d, %x", says, b)
	}
	p.sound()
}

// roundBut is a fair round, but for packets that stay on the way.
func (p *pair) roundBut(stays func(m api.Msg) bool) {
	p.t.Helper()
	for _, x := range p.real.Packets() {
		if !stays(x.Msg) {
			is(p.t, "deliver", p.of(api.StepDeliver, x.ID), api.OK)
		}
	}
	for i := range p.like.setup.Nodes {
		is(p.t, "tick", p.at(api.StepTick, i), api.OK)
	}
}

// Example 7: a leader that is cut off, and another one that takes over: what
// was chosen stays.
func TestLeaderIsCutOff(t *testing.T) {
	p := six(t)
	p.puts(3, "a", whole(20))
	p.ask(0, api.AskPut, "b", whole(7)) // node 0 leads
	for range 60 {
		for _, x := range p.real.Packets() {
			if x.Msg.From == 0 || x.Msg.To == 0 {
				is(t, "lose", p.of(api.StepLose, x.ID), api.OK)
			}
		}
		p.settle(1)
	}
	p.tells(1, "a", whole(20))
	p.settle(60)
	p.tells(0, "a", whole(20))
	p.sound()
	if !p.real.State(0).Same(p.real.State(1)) {
		t.Fatal("both have other configurations")
	}
}

// Example 8: a blob is recoded from K 2, M 1 to K 4, M 2: a get in between
// tells its bytes.
func TestRecode(t *testing.T) {
	p := six(t)
	p.puts(2, "a", whole(50))
	is(t, "recode", p.admin(0, api.Cmd{Kind: api.CmdRecode, Key: "a", Code: api.Code{K: 4, M: 2}}), api.OK)
	for i := range 12 {
		p.ask(i%6, api.AskGet, "a", nil)
		p.settle(1)
	}
	p.settle(30)
	if b := p.blob("a"); b.Code != (api.Code{K: 4, M: 2}) || len(b.Nodes) != 6 {
		t.Fatalf("blob %+v", b)
	}
	for id := 2; id < p.like.next; id++ {
		if says, b := p.told(id); says != api.SaysOK || !bytes.Equal(b, whole(50)) {
			t.Fatalf("call %d: %d, %x", id, says, b)
		}
	}
	p.settle(200)
	p.sound()
	p.tells(5, "a", whole(50))
}
