package node_test

import (
	"fmt"
	"testing"

	"amphora/api"
	"amphora/node"
)

var (
	aCmd = api.Cmd{ID: 40, Kind: api.CmdRetire, Node: 1, Nodes: []int{3, 4}}
	bCmd = api.Cmd{ID: 41, Kind: api.CmdDelete, Key: "b"}
)

// MsgPrepare: promises, and refusals of lower ballots.
func TestPrepare(t *testing.T) {
	n := open(t, 1, three)
	prepare := func(from, ballot, slot int) api.Msg {
		return api.Msg{Kind: api.MsgPrepare, From: from, To: 1, Ballot: ballot, Slot: slot}
	}
	promise := func(to, ballot, slot int, votes ...api.Vote) api.Msg {
		return api.Msg{Kind: api.MsgPromise, From: 1, To: to, Ballot: ballot, Slot: slot, Votes: votes}
	}
	hears(t, n, prepare(0, 16, 1), promise(0, 16, 1))
	hears(t, n, prepare(2, 2, 1), api.Msg{Kind: api.MsgRefuse, From: 1, To: 2, Ballot: 16})
	hears(t, n, prepare(0, 16, 5), promise(0, 16, 5))
	hears(t, n, prepare(0, 0, 1))
	hears(t, n, prepare(0, 32, 0))
	hears(t, n, api.Msg{Kind: api.MsgAccept, From: 2, To: 1, Ballot: 18, Slot: 2, Cmd: aCmd}, api.Msg{Kind: api.MsgAccepted, From: 1, To: 2, Ballot: 18, Slot: 2})
	hears(t, n, api.Msg{Kind: api.MsgAccept, From: 2, To: 1, Ballot: 18, Slot: 4, Cmd: bCmd}, api.Msg{Kind: api.MsgAccepted, From: 1, To: 2, Ballot: 18, Slot: 4})
	one, two := api.Vote{Slot: 2, Ballot: 18, Cmd: aCmd}, api.Vote{Slot: 4, Ballot: 18, Cmd: bCmd}
	hears(t, n, prepare(0, 32, 1), promise(0, 32, 1, one, two))
	hears(t, n, prepare(0, 32, 3), promise(0, 32, 3, two))
	hears(t, n, prepare(0, 32, 5), promise(0, 32, 5))
	hears(t, n, prepare(1, 33, 4)) // its promise is to itself, which has no try
	hears(t, n, prepare(2, 32, 1), api.Msg{Kind: api.MsgRefuse, From: 1, To: 2, Ballot: 33})
}

// MsgPrepare: a message has 1000 votes at most, the first ones.
func TestManyVotes(t *testing.T) {
	n := openOn(t, 1, three, newPlate(t, 4000))
	for slot := 1; slot <= 1001; slot++ {
		n.On(api.Msg{Kind: api.MsgAccept, From: 0, To: 1, Ballot: 16, Slot: slot, Cmd: api.Cmd{ID: slot}})
	}
	for slot, want := range map[int]int{1: 1000, 2: 1000, 3: 999} {
		out, _, _ := n.On(api.Msg{Kind: api.MsgPrepare, From: 0, To: 1, Ballot: 16, Slot: slot})
		votes := out[0].Votes
		if len(votes) != want || votes[0].Slot != slot || votes[want-1].Slot != slot+want-1 {
			t.Fatalf("%d votes from %d on", len(votes), slot)
		}
	}
}

// MsgAccept: what is accepted, and refusals of lower ballots.
func TestAccept(t *testing.T) {
	n := open(t, 1, three)
	accept := func(from, ballot, slot int) api.Msg {
		return api.Msg{Kind: api.MsgAccept, From: from, To: 1, Ballot: ballot, Slot: slot, Cmd: aCmd}
	}
	hears(t, n, accept(0, 16, 1), api.Msg{Kind: api.MsgAccepted, From: 1, To: 0, Ballot: 16, Slot: 1})
	hears(t, n, accept(2, 2, 1), api.Msg{Kind: api.MsgRefuse, From: 1, To: 2, Ballot: 16})
	hears(t, n, accept(2, 0, 1))
	hears(t, n, accept(2, 18, 0))
	// From the one whose command was accepted wants go to it, not to the one that was refused.
	out, told, e := n.Admin(api.Cmd{Kind: api.CmdFail, Node: 2})
	sends(t, out, told, e, api.Msg{Kind: api.MsgForward, From: 1, To: 0, Cmd: api.Cmd{ID: id(1, 1, 1), Kind: api.CmdFail, Node: 2}})
}

// MsgLearn: eight commands at most, up to the first slot without one.
func TestLearn(t *testing.T) {
	n := open(t, 1, three)
	cmd := func(slot int) api.Cmd { return api.Cmd{ID: 100 + slot, Kind: api.CmdNop, Nodes: []int{1}} }
	for slot := 1; slot <= 12; slot++ {
		if slot != 11 {
			chosen(n, 1, slot, cmd(slot))
		}
	}
	for first, count := range map[int]int{0: 8, 1: 8, 3: 8, 4: 7, 10: 1, 11: 0, 12: 1, 13: 0, api.MaxNumber: 0} {
		var want []api.Msg
		for i := range count {
			slot := max(first, 1) + i
			want = append(want, api.Msg{Kind: api.MsgChosen, From: 1, To: 2, Slot: slot, Cmd: cmd(slot)})
		}
		hears(t, n, api.Msg{Kind: api.MsgLearn, From: 2, To: 1, Slot: first}, want...)
	}
	hears(t, n, api.Msg{Kind: api.MsgLearn, From: 1, To: 1, Slot: 1}) // it learns from itself what it has
	if n.State().Slot() != 11 {
		t.Fatalf("slot %d", n.State().Slot())
	}
}

// MsgChosen: another command of a slot changes nothing.
func TestChosenTwice(t *testing.T) {
	n := open(t, 1, three)
	for _, c := range []api.Cmd{aCmd, bCmd, aCmd} {
		out, told, e := chosen(n, 1, 1, c)
		sends(t, out, told, e)
	}
	chosen(n, 1, 0, bCmd)
	if s := n.State(); s.Slot() != 2 || s.Epoch() != 2 {
		t.Fatalf("slot %d, epoch %d", s.Slot(), s.Epoch())
	}
	hears(t, n, api.Msg{Kind: api.MsgLearn, From: 0, To: 1}, api.Msg{Kind: api.MsgChosen, From: 1, To: 0, Slot: 1, Cmd: aCmd})
}

// MsgBeat: of the highest ballot it is the leader's, and tells what there is
// to learn.
func TestBeat(t *testing.T) {
	n := open(t, 1, three)
	beat := func(from, ballot, slot int) api.Msg {
		return api.Msg{Kind: api.MsgBeat, From: from, To: 1, Ballot: ballot, Slot: slot}
	}
	order := func(want ...int) { // whom it takes for the leader
		t.Helper()
		out, _, _ := n.Admin(api.Cmd{Kind: api.CmdAdmit, Node: 1})
		var to []int
		for _, m := range out {
			to = append(to, m.To)
		}
		if fmt.Sprint(to) != fmt.Sprint(want) {
			t.Fatalf("forwarded to %v, want %v", to, want)
		}
	}
	learn := api.Msg{Kind: api.MsgLearn, From: 1, Slot: 1}
	order()
	hears(t, n, beat(0, 16, 1))
	order(0)
	learn.To = 0
	hears(t, n, beat(0, 16, 2), learn)
	hears(t, n, beat(2, 15, 9)) // a lower ballot
	order(0)
	learn.To = 2
	hears(t, n, beat(2, 16, 9), learn) // at it
	order(2)
	learn.To = 0
	hears(t, n, beat(0, 17, 9), learn) // above it
	order(0)
	hears(t, n, beat(2, 16, 9))
	order(0)
	hears(t, n, api.Msg{Kind: api.MsgRefuse, From: 2, To: 1, Ballot: 40})
	hears(t, n, beat(2, 39, 9))
	order(0)
	chosen(n, 1, 1, bCmd)
	hears(t, n, beat(2, 40, 2))
	order(2)
	hears(t, n, beat(2, 40, 3), api.Msg{Kind: api.MsgLearn, From: 1, To: 2, Slot: 2})
}

// MsgBeat: at first the highest ballot is 0.
func TestBeatOfNoBallot(t *testing.T) {
	n := open(t, 1, three)
	hears(t, n, api.Msg{Kind: api.MsgBeat, From: 0, To: 1, Slot: 2}, api.Msg{Kind: api.MsgLearn, From: 1, To: 0, Slot: 1})
}

// leads3 is node 1 of three, which leads by the promise of node 0, with
// ballot 1, from slot 1 on.
func leads3(t *testing.T, votes ...api.Vote) *node.Node {
	t.Helper()
	n := open(t, 1, three)
	ticks(t, n, 13)
	tick(t, n, api.Msg{Kind: api.MsgPrepare, From: 1, To: 0, Ballot: 1, Slot: 1}, api.Msg{Kind: api.MsgPrepare, From: 1, To: 2, Ballot: 1, Slot: 1})
	if n.Leads() {
		t.Fatal("it leads by its own promise alone")
	}
	n.On(api.Msg{Kind: api.MsgPromise, From: 0, To: 1, Ballot: 1, Slot: 1, Votes: votes})
	if !n.Leads() {
		t.Fatal("it does not lead")
	}
	return n
}

// accepts is a proposal of node 1 to the others.
func accepts(ballot, slot int, c api.Cmd) []api.Msg {
	return []api.Msg{
		{Kind: api.MsgAccept, From: 1, To: 0, Ballot: ballot, Slot: slot, Cmd: c},
		{Kind: api.MsgAccept, From: 1, To: 2, Ballot: ballot, Slot: slot, Cmd: c},
	}
}

// chosens is what node 1 tells the others.
func chosens(slot int, c api.Cmd) []api.Msg {
	return []api.Msg{
		{Kind: api.MsgChosen, From: 1, To: 0, Slot: slot, Cmd: c},
		{Kind: api.MsgChosen, From: 1, To: 2, Slot: slot, Cmd: c},
	}
}

// MsgPromise: of another ballot it plays no part.
func TestPromiseOfAnotherBallot(t *testing.T) {
	n := open(t, 1, three)
	hears(t, n, api.Msg{Kind: api.MsgPromise, From: 0, To: 1, Ballot: 0})
	ticks(t, n, 13)
	n.Tick()
	for _, ballot := range []int{0, 2, 17} {
		hears(t, n, api.Msg{Kind: api.MsgPromise, From: 0, To: 1, Ballot: ballot})
		if n.Leads() {
			t.Fatalf("it leads by a promise of ballot %d", ballot)
		}
	}
	hears(t, n, api.Msg{Kind: api.MsgPromise, From: 2, To: 1, Ballot: 1})
	if !n.Leads() {
		t.Fatal("it does not lead")
	}
}

// MsgForward, MsgAccepted: what a leader proposes, and when it is chosen.
func TestForward(t *testing.T) {
	n := leads3(t)
	forward := func(c api.Cmd) api.Msg { return api.Msg{Kind: api.MsgForward, From: 2, To: 1, Cmd: c} }
	accepted := func(from, ballot, slot int) api.Msg {
		return api.Msg{Kind: api.MsgAccepted, From: from, To: 1, Ballot: ballot, Slot: slot}
	}
	hears(t, n, forward(bCmd), accepts(1, 1, bCmd)...)
	hears(t, n, forward(bCmd)) // it is there
	hears(t, n, accepted(0, 2, 1))
	hears(t, n, accepted(0, 1, 2))
	hears(t, n, accepted(1, 1, 1)) // its own vote is counted once
	hears(t, n, accepted(2, 1, 1), chosens(1, bCmd)...)
	hears(t, n, accepted(0, 1, 1)) // it is learned
	if n.State().Slot() != 2 {
		t.Fatalf("slot %d", n.State().Slot())
	}
	hears(t, n, forward(bCmd)) // proposed in an open slot: not again
	hears(t, n, forward(aCmd), accepts(1, 2, aCmd)...)
}

// MsgForward: one who does not lead forgets it.
func TestForwardToNobody(t *testing.T) {
	n := open(t, 1, three)
	hears(t, n, api.Msg{Kind: api.MsgForward, From: 2, To: 1, Cmd: bCmd})
	ticks(t, n, 13)
	n.Tick()
	hears(t, n, api.Msg{Kind: api.MsgForward, From: 2, To: 1, Cmd: bCmd})
	hears(t, n, api.Msg{Kind: api.MsgPromise, From: 0, To: 1, Ballot: 1})
	if !n.Leads() {
		t.Fatal("it does not lead")
	}
}

// Alpha slots are open at most, in the queue's order.
func TestAlpha(t *testing.T) {
	n := leads3(t)
	cmd := func(i int) api.Cmd { return api.Cmd{ID: 100 - i, Kind: api.CmdGet, Key: "x"} }
	for i := 1; i <= 7; i++ {
		var want []api.Msg
		if i <= 4 {
			want = accepts(1, i, cmd(i))
		}
		hears(t, n, api.Msg{Kind: api.MsgForward, From: 0, To: 1, Cmd: cmd(i)}, want...)
	}
	ok := func(slot int) api.Msg {
		return api.Msg{Kind: api.MsgAccepted, From: 2, To: 1, Ballot: 1, Slot: slot}
	}
	hears(t, n, ok(3), chosens(3, cmd(3))...)
	hears(t, n, ok(2), chosens(2, cmd(2))...)
	want := append(chosens(1, cmd(1)), accepts(1, 5, cmd(5))...)
	want = append(want, accepts(1, 6, cmd(6))...)
	hears(t, n, ok(1), append(want, accepts(1, 7, cmd(7))...)...)
	if n.State().Slot() != 4 {
		t.Fatalf("slot %d", n.State().Slot())
	}
}

// What may be chosen goes ahead of the queue, gaps are filled.
func TestBound(t *testing.T) {
	n := open(t, 1, three)
	n.Admin(api.Cmd{Kind: api.CmdFail, Node: 2}) // wanted, but not in the queue yet
	for range 14 {
		n.Tick()
	}
	old := api.Cmd{ID: 60, Kind: api.CmdGet, Key: "old"}
	votes := []api.Vote{{Slot: 1, Ballot: 1, Cmd: old}, {Slot: 4, Ballot: 9, Cmd: aCmd}, {Slot: 4, Ballot: 3, Cmd: bCmd}, {Slot: 6, Ballot: 1, Cmd: bCmd}}
	want := accepts(1, 1, old)
	want = append(want, accepts(1, 2, api.Cmd{})...)
	want = append(want, accepts(1, 3, api.Cmd{})...)
	want = append(want, accepts(1, 4, aCmd)...)
	hears(t, n, api.Msg{Kind: api.MsgPromise, From: 2, To: 1, Ballot: 1, Votes: votes}, want...)
	mine := api.Cmd{ID: id(1, 1, 1), Kind: api.CmdFail, Node: 2}
	tick(t, n) // tick 15
	tick(t, n, append([]api.Msg{{Kind: api.MsgBeat, From: 1, To: 0, Ballot: 1, Slot: 1}, {Kind: api.MsgBeat, From: 1, To: 2, Ballot: 1, Slot: 1}}, want...)...)
	out, told, e := chosen(n, 1, 1, old)
	sends(t, out, told, e, accepts(1, 5, api.Cmd{})...)
	out, told, e = chosen(n, 1, 2, api.Cmd{})
	sends(t, out, told, e, accepts(1, 6, bCmd)...)
	out, told, e = chosen(n, 1, 3, api.Cmd{})
	sends(t, out, told, e, accepts(1, 7, mine)...) // which joined the queue at tick 16
}

// A higher ballot ends a try, a lower one does not.
func TestHigherBallots(t *testing.T) {
	for _, kind := range []int{api.MsgPrepare, api.MsgAccept, api.MsgRefuse, api.MsgBeat} {
		for ballot, leads := range map[int]bool{0: true, 1: true, 2: false, 16: false} {
			for _, slot := range []int{0, 1} { // also if the acceptor tells an error
				n := leads3(t)
				n.On(api.Msg{Kind: kind, From: 2, To: 1, Ballot: ballot, Slot: slot})
				if n.Leads() != leads {
					t.Errorf("kind %d of ballot %d: leads %v", kind, ballot, n.Leads())
				}
			}
		}
	}
	for _, kind := range []int{api.MsgPromise, api.MsgAccepted, api.MsgChosen, api.MsgLearn, api.MsgForward, api.MsgStore, api.MsgStored, api.MsgFetch, api.MsgFetched, api.MsgFence, api.MsgFenced} {
		n := leads3(t)
		n.On(api.Msg{Kind: kind, From: 2, To: 1, Ballot: 16, Slot: 9})
		if !n.Leads() {
			t.Errorf("kind %d ended a try", kind)
		}
	}
}

// MsgRefuse: the next try has a greater ballot than what was refused.
func TestRefuse(t *testing.T) {
	n := leads3(t)
	hears(t, n, api.Msg{Kind: api.MsgRefuse, From: 2, To: 1, Ballot: 34})
	ticks(t, n, 13)
	tick(t, n, api.Msg{Kind: api.MsgPrepare, From: 1, To: 0, Ballot: 49, Slot: 1}, api.Msg{Kind: api.MsgPrepare, From: 1, To: 2, Ballot: 49, Slot: 1})
}

// MsgStore, MsgFetch, MsgFence: a shard's requests.
func TestShards(t *testing.T) {
	p := newPlate(t, 100)
	n := openOn(t, 1, three, p)
	request := func(kind, epoch int, b []byte) api.Msg {
		return api.Msg{Kind: kind, From: 2, To: 1, Blob: 40, Index: 3, Epoch: epoch, ID: 8, Bytes: b}
	}
	reply := func(kind int, ok bool, b []byte) api.Msg {
		return api.Msg{Kind: kind, From: 1, To: 2, Blob: 40, Index: 3, ID: 8, OK: ok, Bytes: b}
	}
	hears(t, n, request(api.MsgFetch, 0, nil), reply(api.MsgFetched, false, nil))
	hears(t, n, request(api.MsgStore, 0, nil), reply(api.MsgStored, false, nil))
	hears(t, n, request(api.MsgStore, 0, []byte("xyz")), reply(api.MsgStored, true, nil))
	hears(t, n, request(api.MsgStore, 0, []byte("xyz")), reply(api.MsgStored, true, nil))
	hears(t, n, request(api.MsgStore, 0, []byte("abc")), reply(api.MsgStored, false, nil))
	hears(t, n, request(api.MsgStore, 0, make([]byte, api.MaxRecord)), reply(api.MsgStored, false, nil))
	hears(t, n, request(api.MsgFetch, 0, nil), reply(api.MsgFetched, true, []byte("xyz")))
	hears(t, n, request(api.MsgFence, 5, nil), reply(api.MsgFenced, true, nil))
	hears(t, n, request(api.MsgFence, 4, nil), reply(api.MsgFenced, true, nil))
	hears(t, n, request(api.MsgFetch, 4, nil), reply(api.MsgFetched, false, nil))
	hears(t, n, request(api.MsgFetch, 5, nil), reply(api.MsgFetched, true, []byte("xyz")))
	hears(t, n, request(api.MsgStore, 4, []byte("xyz")), reply(api.MsgStored, false, nil))
	hears(t, n, request(api.MsgStore, 5, []byte("xyz")), reply(api.MsgStored, true, nil))
	if len(p.Dirty()) != 0 {
		t.Fatal("answered, but not synced")
	}
	is(t, "Crash", p.Crash(nil, -1, 0), api.OK)
	n = openOn(t, 1, three, p)
	hears(t, n, request(api.MsgFetch, 4, nil), reply(api.MsgFetched, false, nil))
	hears(t, n, request(api.MsgFetch, 5, nil), reply(api.MsgFetched, true, []byte("xyz")))
}

// A node whose disk has failed answers nothing that the disk should keep.
func TestDeadDisk(t *testing.T) {
	p := newPlate(t, 100)
	n := openOn(t, 1, three, p)
	hears(t, n, api.Msg{Kind: api.MsgStore, From: 2, To: 1, Blob: 40, Bytes: []byte("xyz")}, api.Msg{Kind: api.MsgStored, From: 1, To: 2, Blob: 40, OK: true})
	p.Fail()
	hears(t, n, api.Msg{Kind: api.MsgStore, From: 2, To: 1, Blob: 41, Bytes: []byte("xyz")})
	hears(t, n, api.Msg{Kind: api.MsgStore, From: 2, To: 1, Blob: 40, Bytes: []byte("xyz")}) // without a record the sync tells it
	hears(t, n, api.Msg{Kind: api.MsgStore, From: 2, To: 1, Blob: 40, Bytes: []byte("other")}, api.Msg{Kind: api.MsgStored, From: 1, To: 2, Blob: 40})
	hears(t, n, api.Msg{Kind: api.MsgFence, From: 2, To: 1, Blob: 40, Epoch: 3})
	hears(t, n, api.Msg{Kind: api.MsgFence, From: 2, To: 1, Blob: 40})
	hears(t, n, api.Msg{Kind: api.MsgPrepare, From: 2, To: 1, Ballot: 9, Slot: 1})
	hears(t, n, api.Msg{Kind: api.MsgAccept, From: 2, To: 1, Ballot: 9, Slot: 1, Cmd: aCmd})
}

// A full disk refuses, and says so.
func TestFullDisk(t *testing.T) {
	n := openOn(t, 1, three, newPlate(t, 20))
	refused := 0
	for blob := 1; blob <= 20; blob++ {
		out, _, _ := n.On(api.Msg{Kind: api.MsgStore, From: 2, To: 1, Blob: blob, Bytes: make([]byte, 60)})
		if len(out) != 1 || out[0].Kind != api.MsgStored || out[0].Blob != blob {
			t.Fatalf("sends %+v", out)
		}
		if !out[0].OK {
			refused++
		}
	}
	if held := len(n.Held()); refused == 0 || held != 20-refused {
		t.Fatalf("%d refused, %d held", refused, held)
	}
}

// On: messages that are none, or not for this node.
func TestNotForIt(t *testing.T) {
	fetch := api.Msg{Kind: api.MsgFetch, From: 2, To: 1, Blob: 40}
	for name, change := range map[string]func(m *api.Msg){
		"to 0": func(m *api.Msg) { m.To = 0 }, "to 2": func(m *api.Msg) { m.To = 2 }, "to -1": func(m *api.Msg) { m.To = -1 },
		"to 16": func(m *api.Msg) { m.To = 16 }, "from 3": func(m *api.Msg) { m.From = 3 }, "from 15": func(m *api.Msg) { m.From = 15 },
		"from 16": func(m *api.Msg) { m.From = 16 }, "from -1": func(m *api.Msg) { m.From = -1 },
		"kind 0": func(m *api.Msg) { m.Kind = 0 }, "kind 16": func(m *api.Msg) { m.Kind = 16 }, "kind -1": func(m *api.Msg) { m.Kind = -1 },
		"ballot": func(m *api.Msg) { m.Ballot = -1 }, "slot": func(m *api.Msg) { m.Slot = api.MaxNumber + 1 }, "blob": func(m *api.Msg) { m.Blob = -1 },
		"index": func(m *api.Msg) { m.Index = -1 }, "epoch": func(m *api.Msg) { m.Epoch = -1 }, "id": func(m *api.Msg) { m.ID = -1 },
		"command": func(m *api.Msg) { m.Cmd.Kind = 13 }, "key": func(m *api.Msg) { m.Cmd.Key = "123456789" },
		"votes": func(m *api.Msg) { m.Votes = make([]api.Vote, 1001) }, "vote": func(m *api.Msg) { m.Votes = []api.Vote{{Slot: -1}} },
		"bytes": func(m *api.Msg) { m.Bytes = make([]byte, api.MaxRecord+1) },
	} {
		n := open(t, 1, three)
		m := fetch
		change(&m)
		out, told, e := n.On(m)
		if len(out)+len(told) != 0 || e != api.OK {
			t.Errorf("%s: %+v, %+v, %v", name, out, told, e)
		}
		hears(t, n, fetch, api.Msg{Kind: api.MsgFetched, From: 1, To: 2, Blob: 40})
	}
	for from := range 3 {
		n := open(t, 1, three)
		m := fetch
		m.From = from
		var want []api.Msg
		if from != 1 {
			want = []api.Msg{{Kind: api.MsgFetched, From: 1, To: from, Blob: 40}}
		}
		hears(t, n, m, want...)
	}
	n := leads3(t)
	hears(t, n, api.Msg{Kind: api.MsgRefuse, From: 3, To: 1, Ballot: 99})
	hears(t, n, api.Msg{Kind: api.MsgRefuse, From: 0, To: 2, Ballot: 99})
	if !n.Leads() {
		t.Fatal("a message that is not for it ended a try")
	}
}

// Messages to itself are taken behind what was there: a leader that is the
// only voter sends its proposals ahead of what is chosen by its own vote.
func TestOrder(t *testing.T) {
	s := api.Setup{Nodes: 3, Voters: 1, Code: api.Code{K: 1, M: 2}}
	n := open(t, 0, s)
	ticks(t, n, 9)
	tick(t, n, api.Msg{Kind: api.MsgPrepare, To: 1, Ballot: 16, Slot: 1}, api.Msg{Kind: api.MsgPrepare, To: 2, Ballot: 16, Slot: 1})
	if !n.Leads() {
		t.Fatal("it does not lead by its own vote")
	}
	c := api.Cmd{ID: id(1, 1, 0), Kind: api.CmdGet, Key: "a"}
	out, told, e := n.Ask(api.Ask{ID: 3, Kind: api.AskGet, Key: "a"})
	is(t, "Ask", e, api.OK)
	msgsAre(t, out,
		api.Msg{Kind: api.MsgAccept, To: 1, Ballot: 16, Slot: 1, Cmd: c}, api.Msg{Kind: api.MsgAccept, To: 2, Ballot: 16, Slot: 1, Cmd: c},
		api.Msg{Kind: api.MsgChosen, To: 1, Slot: 1, Cmd: c}, api.Msg{Kind: api.MsgChosen, To: 2, Slot: 1, Cmd: c})
	toldIs(t, told, api.Told{ID: 3, Says: api.SaysMissing})
	out, told, e = n.Ask(api.Ask{ID: 4, Kind: api.AskPut, Key: "a", Bytes: []byte("x")})
	if e != api.OK || len(told) != 0 || len(out) != 2 || out[0].Kind != api.MsgStore || out[1].Kind != api.MsgStore || len(n.Held()) != 1 {
		t.Fatalf("%+v, %+v, %v", out, told, e)
	}
}

// Votes that were accepted in an earlier life bind the only voter, whose
// prepares go ahead of its proposals.
func TestOrderOfTry(t *testing.T) {
	p := newPlate(t, 200)
	s := api.Setup{Nodes: 3, Voters: 1, Code: api.Code{K: 1}}
	n := openOn(t, 0, s, p)
	hears(t, n, api.Msg{Kind: api.MsgAccept, From: 1, To: 0, Ballot: 1, Slot: 1, Cmd: bCmd}, api.Msg{Kind: api.MsgAccepted, To: 1, Ballot: 1, Slot: 1})
	ticks(t, n, 9)
	tick(t, n,
		api.Msg{Kind: api.MsgPrepare, To: 1, Ballot: 16, Slot: 1}, api.Msg{Kind: api.MsgPrepare, To: 2, Ballot: 16, Slot: 1},
		api.Msg{Kind: api.MsgAccept, To: 1, Ballot: 16, Slot: 1, Cmd: bCmd}, api.Msg{Kind: api.MsgAccept, To: 2, Ballot: 16, Slot: 1, Cmd: bCmd},
		api.Msg{Kind: api.MsgChosen, To: 1, Slot: 1, Cmd: bCmd}, api.Msg{Kind: api.MsgChosen, To: 2, Slot: 1, Cmd: bCmd})
	if n.State().Slot() != 2 {
		t.Fatalf("slot %d", n.State().Slot())
	}
}
