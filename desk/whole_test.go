package desk_test

import (
	"bytes"
	"reflect"
	"slices"
	"strings"
	"testing"

	"amphora/api"
	"amphora/audit"
	"amphora/plate"
	"amphora/shelf"
	"amphora/vote"
)

const twenty = "twenty bytes of text"

// six is six nodes, of which three vote, three shards of each blob, and one
// blob, put by node 5.
func six(t *testing.T) *play {
	t.Helper()
	p := newPlay(t, 6, 3, 800, 2, 1)
	p.must("settle 15")
	p.must("put 5 a %x", twenty)
	p.must("settle 30")
	p.says(1, api.SaysOK, "")
	return p
}

// Example 1 of the whole: three nodes, two of them down: a put is given up.
func TestTwoDown(t *testing.T) {
	p := newPlay(t, 3, 3, 400, 1, 0)
	p.must("settle 15")
	p.must("crash 1 -1 0")
	p.must("crash 2 -1 0")
	p.must("put 0 a 41")
	p.must("settle %d", api.CallTime-1)
	p.says(1, 0, "")
	p.must("settle 1")
	p.says(1, api.SaysTimeout, "")
	p.ends()
}

// Example 2: K 2, M 1: three shards of 16 bytes; one disk fails: a get tells
// the bytes. Example 3: CmdFail: its shards are reckoned anew on a spare node.
func TestDiskFails(t *testing.T) {
	p := six(t)
	old := p.blob("a")
	if len(old.Nodes) != 3 || old.Size != 20 {
		t.Fatalf("blob %+v", old)
	}
	for i, n := range old.Nodes {
		held, e := audit.Shards(p.c.Plate(n).Image())
		if e != api.OK || len(held) != 1 || held[0].Index != i || len(held[0].Bytes) != 16 {
			t.Fatalf("node %d has %v, %v", n, held, e)
		}
	}
	lost, at := old.Nodes[1], p.spare("a")
	p.must("dead %d", lost)
	if !audit.Sound(p.images(), old, []byte(twenty)) {
		t.Fatal("two shards are not sound")
	}
	p.must("get %d a", at)
	p.must("settle 20")
	p.says(2, api.SaysOK, twenty)
	p.must("fail %d %d", at, lost)
	p.must("settle 60")
	if b := p.blob("a"); slices.Contains(b.Nodes, lost) || p.c.Busy() != 0 {
		p.fail("blob %+v, busy %d", b, p.c.Busy())
	}
	for _, n := range p.blob("a").Nodes {
		if held, _ := audit.Shards(p.c.Plate(n).Image()); len(held) != 1 {
			p.fail("node %d has %v", n, held)
		}
	}
	p.must("get %d a", at)
	p.must("settle 20")
	p.says(3, api.SaysOK, twenty)
	p.ends()
}

// Example 4: a move that a crash interrupts goes on when the node is started
// again.
func TestMoveThatIsInterrupted(t *testing.T) {
	for rounds := range 8 {
		p := six(t)
		to := p.spare("a")
		p.must("move 1 a 2 %d", to)
		p.must("settle %d", rounds)
		p.must("crash %d -1 0", to)
		p.must("settle 10")
		p.must("start %d", to)
		p.must("settle 90")
		if b := p.blob("a"); b.Nodes[2] != to || p.c.Busy() != 0 {
			p.fail("blob %+v, busy %d", b, p.c.Busy())
		}
		p.must("get %d a", to)
		p.must("settle 20")
		p.says(2, api.SaysOK, twenty)
		p.ends()
	}
}

// Example 5: two puts of one key at two nodes: one is told that it is there.
func TestTwoPuts(t *testing.T) {
	p := six(t)
	p.must("put 1 b 31")
	p.must("put 4 b 34")
	p.must("settle 30")
	one, _ := p.answer(2)
	two, _ := p.answer(3)
	if one+two != api.SaysOK+api.SaysThere || one == two {
		p.fail("told %d and %d", one, two)
	}
	p.must("get 3 b")
	p.must("settle 20")
	if one == api.SaysOK {
		p.says(4, api.SaysOK, "1")
	} else {
		p.says(4, api.SaysOK, "4")
	}
	p.ends()
}

// Example 6: a get whose answers are late is not answered with bytes. The node
// that has the only shard answers in time, but the packets are held back.
func TestLateAnswers(t *testing.T) {
	for _, late := range []int{3, api.LeaseTime + 3} {
		p := newPlay(t, 2, 1, 400, 1, 0)
		p.must("settle 15")
		p.must("put 0 a 41")
		p.must("settle 10")
		p.says(1, api.SaysOK, "")
		by := p.spare("a")
		p.must("get %d a", by)
		fetched := func(x api.Sent) bool { return x.Msg.Kind == api.MsgFetched }
		for range late {
			for _, x := range p.c.Packets() {
				if !fetched(x) {
					p.must("deliver %d", x.ID)
				}
			}
			p.must("tick 0")
			p.must("tick 1")
		}
		p.says(2, 0, "")
		for _, x := range p.c.Packets() {
			if fetched(x) {
				p.must("deliver %d", x.ID)
			}
		}
		if late < api.LeaseTime {
			p.says(2, api.SaysOK, "A")
		} else {
			p.says(2, api.SaysNot, "")
		}
		p.ends()
	}
}

// Example 7: a leader that is cut off, and another one that takes over: what
// was chosen stays.
func TestLeaderIsCutOff(t *testing.T) {
	p := newPlay(t, 3, 3, 400, 2, 1)
	p.must("settle 15")
	p.must("put 1 a %x", twenty)
	p.must("settle 15")
	p.says(1, api.SaysOK, "")
	p.must("put 0 b 42")
	for range 50 {
		for _, x := range p.c.Packets() {
			if x.Msg.From == 0 || x.Msg.To == 0 {
				p.must("lose %d", x.ID)
			}
		}
		p.must("settle 1")
	}
	p.must("get 1 a")
	for range 12 {
		for _, x := range p.c.Packets() {
			if x.Msg.From == 0 || x.Msg.To == 0 {
				p.must("lose %d", x.ID)
			}
		}
		p.must("settle 1")
	}
	p.says(3, api.SaysOK, twenty)
	p.must("settle 60")
	p.must("get 0 a")
	p.must("settle 20")
	p.says(4, api.SaysOK, twenty)
	if !p.c.State(0).Same(p.c.State(1)) {
		p.fail("both have other configurations")
	}
	p.ends()
}

// Example 8: a blob is recoded from K 2, M 1 to K 4, M 2: a get in between
// tells its bytes.
func TestRecode(t *testing.T) {
	p := six(t)
	p.must("recode 0 a 4 2")
	for i := range 12 {
		p.must("get %d a", i%6)
		p.must("settle 1")
	}
	p.must("settle 30")
	b := p.blob("a")
	if b.Code != (api.Code{K: 4, M: 2}) || len(b.Nodes) != 6 || !audit.Sound(p.images(), b, []byte(twenty)) {
		p.fail("blob %+v", b)
	}
	for id := 2; id < 14; id++ {
		p.says(id, api.SaysOK, twenty)
	}
	p.must("settle 200")
	p.must("get 5 a")
	p.must("settle 20")
	p.says(14, api.SaysOK, twenty)
	p.ends()
}

// packet is the number of one that is on the way, mostly.
func (p *play) packet(d *dice) int {
	l := p.c.Packets()
	if len(l) == 0 || d.roll(20) == 0 {
		return d.roll(50) - 1
	}
	return of(d, l...).ID
}

// order is a command that may change something.
func (p *play) order(d *dice) api.Cmd {
	x, key, code := d.roll(p.nodes), of(d, "a", "b", "c", "d"), api.Code{K: 1 + d.roll(2), M: 1 + d.roll(2)}
	voters := []int{x}
	for n := range p.nodes {
		if n != x && d.roll(2) == 0 {
			voters = append(voters, n)
		}
	}
	return of(d,
		api.Cmd{Kind: api.CmdMove, Key: key, Index: d.roll(3), Node: x}, api.Cmd{Kind: api.CmdRecode, Key: key, Code: code},
		api.Cmd{Kind: api.CmdAdmit, Node: x}, api.Cmd{Kind: api.CmdRetire, Node: x},
		api.Cmd{Kind: api.CmdVoters, Nodes: voters}, api.Cmd{Kind: api.CmdWidth, Code: code})
}

// crash is of a node whose disk keeps some sectors.
func (p *play) crash(d *dice, i int) api.Step {
	s := api.Step{Kind: api.StepCrash, Node: i, Torn: -1, Bytes: d.roll(api.Size + 1)}
	for _, sector := range p.c.Plate(i).Dirty() {
		if d.roll(2) == 0 {
			s.Keep = append(s.Keep, sector)
		}
		if d.roll(2) == 0 {
			s.Torn = sector
		}
	}
	return s
}

// think is a step that a script may have.
func (p *play) think(d *dice) api.Step {
	i := d.roll(p.nodes)
	switch r := d.roll(100); {
	case r < 12:
		a := api.Ask{Kind: of(d, api.AskPut, api.AskPut, api.AskGet, api.AskGet, api.AskDelete), Key: of(d, "a", "b", "c", "d", "e")}
		if a.Kind == api.AskPut {
			a.Bytes = bytes.Repeat([]byte{byte(d.roll(256))}, d.roll(30))
		}
		return api.Step{Kind: api.StepAsk, Node: i, Ask: a}
	case r < 15:
		return api.Step{Kind: api.StepAdmin, Node: i, Cmd: p.order(d)}
	case r < 45:
		return api.Step{Kind: of(d, api.StepDeliver, api.StepDeliver, api.StepDeliver, api.StepDeliver, api.StepLose, api.StepTwice), N: p.packet(d)}
	case r < 70:
		return api.Step{Kind: api.StepTick, Node: i}
	case r < 71:
		return api.Step{Kind: of(d, api.StepTick, api.StepStart, api.StepCrash), Node: of(d, -1, p.nodes)}
	case r < 73:
		return p.crash(d, i)
	case r < 81:
		return api.Step{Kind: api.StepStart, Node: i}
	}
	return api.Step{Kind: api.StepSettle, N: d.roll(8)}
}

// unanswered is how many calls have no answer.
func (p *play) unanswered() int {
	open := 0
	for _, x := range p.c.Journal() {
		if x.Answer {
			open--
		} else {
			open++
		}
	}
	return open
}

// alive tells whether of each slot that somebody still has to learn more than
// half of the voters have a disk.
func (p *play) alive() bool {
	first := p.last
	for i := range p.nodes {
		if s := p.c.State(i); s != nil {
			first = min(first, s.Slot())
		}
	}
	for slot := first; slot <= p.last+api.Alpha; slot++ {
		voters, count := p.states[p.last].Voters(slot), 0
		for _, v := range voters {
			if v < p.nodes && !p.c.Plate(v).Failed() {
				count++
			}
		}
		if 2*count <= len(voters) {
			return false
		}
	}
	return true
}

// rest starts all nodes that have a disk, tells them of the one that is lost,
// and settles till nothing is left to do.
func (p *play) rest(lost int) {
	p.t.Helper()
	for i := range p.nodes {
		if p.c.State(i) == nil && i != lost {
			p.must("start %d", i)
		}
	}
	p.must("settle 60")
	for i := range p.nodes {
		if lost >= 0 && i != lost {
			p.must("fail %d %d", i, lost)
		}
	}
	for range 10 {
		if p.must("settle 90"); p.c.Busy() == 0 {
			return
		}
		p.seen()
	}
}

// P1 to P5: many scripts, with all that may go wrong. In each second one a
// disk fails, and one shard of each blob may be lost.
func TestScripts(t *testing.T) {
	told, alive := map[string]int{}, 0
	for seed := range 60 {
		d := dice(seed)
		nodes := 2 + d.roll(5)
		p := newPlay(t, nodes, 1+d.roll(nodes), 2000, 1+d.roll(nodes-1), 1)
		lost := -1
		for i := range 350 {
			p.step(p.think(&d))
			p.seen()
			if i%10 == 9 || seed < 4 {
				p.nothingLost()
			}
			if i == 200 && seed%2 == 1 {
				lost = d.roll(nodes)
				p.must("dead %d", lost)
				p.nothingLost()
			}
		}
		p.rest(lost)
		p.ends()
		if p.alive() {
			alive++
			if p.c.Busy() > 0 {
				p.fail("seed %d: still busy: %d", seed, p.c.Busy())
			}
		}
		for _, line := range p.want {
			word := strings.Split(line, " ")
			told[word[0]+word[min(len(word), 3)-1]]++
		}
	}
	for _, line := range []string{"okok", "error1", "error90", "error100", "error210", "told1", "told2", "told3", "told4", "told5"} {
		if told[line] < 5 {
			t.Errorf("%s was told %d times: too few to tell", line, told[line])
		}
	}
	if alive < 40 {
		t.Errorf("%d clusters had enough voters at the end: too few to tell", alive)
	}
}

// P5: without crashes each call is answered in the end.
func TestEachCallIsAnswered(t *testing.T) {
	for seed := range 20 {
		d := dice(1000 + seed)
		nodes := 2 + d.roll(5)
		p := newPlay(t, nodes, 1+d.roll(nodes), 2000, 1+d.roll(nodes-1), 1)
		for range 350 {
			if s := p.think(&d); s.Kind != api.StepCrash {
				p.step(s)
			}
		}
		p.rest(-1)
		p.ends()
		if p.c.Busy() > 0 || p.unanswered() > 0 {
			p.fail("seed %d: busy %d, %d calls are not answered", seed, p.c.Busy(), p.unanswered())
		}
	}
}

// disk is what a node finds on its disk when it is started.
type disk struct {
	shards   []api.Held
	fences   map[[2]int]int // of all shards of blobs that nodes knew
	promised int
	votes    []api.Vote
}

// disk is a node's, as it is durable.
func (p *play) disk(i int) disk {
	p.t.Helper()
	image := p.c.Plate(i).Image()
	shards, e := audit.Shards(image)
	if e != api.OK {
		p.fail("the disk of %d: %v", i, e)
	}
	x := disk{shards: shards, fences: map[[2]int]int{}}
	again, _ := plate.Of(image)
	s, _ := shelf.Open(again)
	for _, state := range p.states {
		for _, key := range state.Keys() {
			b, _ := state.Blob(key)
			for index := range b.Nodes {
				x.fences[[2]int{b.ID, index}] = s.Fenced(b.ID, index)
			}
		}
	}
	a, e := vote.Open(s)
	if e != api.OK {
		p.fail("the acceptor of %d: %v", i, e)
	}
	x.promised, x.votes = a.Promised(), a.Votes(0)
	return x
}

// keeps tells whether a disk has all that another one had ahead of it.
func (x disk) keeps(old disk) bool {
	for _, h := range old.shards {
		if !slices.ContainsFunc(x.shards, func(o api.Held) bool { return reflect.DeepEqual(o, h) }) {
			return false
		}
	}
	for i, fence := range old.fences {
		if x.fences[i] < fence {
			return false
		}
	}
	return x.promised == old.promised && reflect.DeepEqual(x.votes, old.votes)
}

// P3: whatever a crash keeps, the shards, fences, promises and votes that were
// durable are there when the node is started again.
func TestDisksBehindCrashes(t *testing.T) {
	crashes, fences := 0, 0
	for seed := range 20 {
		d := dice(2000 + seed)
		p := newPlay(t, 4, 3, 800, 2, 1)
		p.must("settle 15")
		p.must("put 0 f %x", twenty)
		p.must("settle 15")
		for len(p.want) < 280 {
			p.step(p.think(&d))
			p.seen()
			if d.roll(10) == 0 {
				p.do("move %d f %d %d", d.roll(4), d.roll(3), p.spare("f"))
				p.must("settle %d", d.roll(20))
			}
			i := d.roll(4)
			if d.roll(8) > 0 || p.c.State(i) == nil {
				continue
			}
			before := p.disk(i)
			p.step(p.crash(&d, i))
			if !p.disk(i).keeps(before) {
				p.fail("node %d has lost something by a crash", i)
			}
			p.must("start %d", i)
			if behind := p.disk(i); !behind.keeps(before) {
				p.fail("node %d has lost something: %v, of %v", i, behind, before)
			}
			crashes++
			for _, fence := range before.fences {
				fences = max(fences, fence)
			}
		}
		p.ends()
	}
	if crashes < 200 || fences == 0 {
		t.Errorf("%d crashes, fences up to %d: too few to tell", crashes, fences)
	}
}
