package node_test

import (
	"testing"

	"amphora/api"
)

// toThree is a message of a node of three to the others.
func toThree(m api.Msg) []api.Msg {
	var l []api.Msg
	for to := range 3 {
		if m.To = to; to != m.From {
			l = append(l, m)
		}
	}
	return l
}

func prepare(self, ballot, slot int) []api.Msg {
	return toThree(api.Msg{Kind: api.MsgPrepare, From: self, Ballot: ballot, Slot: slot})
}

// The tick at which a node begins a try, gives it up, and begins the next one.
func TestTries(t *testing.T) {
	for self := range 3 {
		n, wait := open(t, self, three), 10+4*self
		ballot := self
		if self == 0 {
			ballot = 16
		}
		for range 3 {
			ticks(t, n, wait-1)
			tick(t, n, prepare(self, ballot, 1)...)
			if n.Leads() {
				t.Fatal("it leads")
			}
			ticks(t, n, 8) // at the eighth one it is given up
			ballot += 16
		}
	}
}

// A promise that comes too late is not counted.
func TestLatePromise(t *testing.T) {
	for late, leads := range map[int]bool{7: true, 8: false} {
		n := open(t, 1, three)
		ticks(t, n, 13)
		n.Tick()
		ticks(t, n, late)
		n.On(api.Msg{Kind: api.MsgPromise, From: 0, To: 1, Ballot: 1, Slot: 1})
		if n.Leads() != leads {
			t.Errorf("leads %v behind %d ticks", n.Leads(), late)
		}
	}
}

// What puts a try off.
func TestHeard(t *testing.T) {
	for name, x := range map[string]struct {
		msg api.Msg
		off bool
	}{
		"prepare":          {api.Msg{Kind: api.MsgPrepare, Ballot: 18, Slot: 1}, true},
		"lower prepare":    {api.Msg{Kind: api.MsgPrepare, Ballot: 15, Slot: 1}, false},
		"wrong prepare":    {api.Msg{Kind: api.MsgPrepare, Ballot: 18}, false},
		"accept":           {api.Msg{Kind: api.MsgAccept, Ballot: 18, Slot: 1}, true},
		"same accept":      {api.Msg{Kind: api.MsgAccept, Ballot: 16, Slot: 1}, true},
		"lower accept":     {api.Msg{Kind: api.MsgAccept, Ballot: 15, Slot: 1}, false},
		"wrong accept":     {api.Msg{Kind: api.MsgAccept, Ballot: 18}, false},
		"beat":             {api.Msg{Kind: api.MsgBeat, Ballot: 16}, true},
		"higher beat":      {api.Msg{Kind: api.MsgBeat, Ballot: 17}, true},
		"lower beat":       {api.Msg{Kind: api.MsgBeat, Ballot: 15}, false},
		"refuse":           {api.Msg{Kind: api.MsgRefuse, Ballot: 16}, false},
		"chosen":           {api.Msg{Kind: api.MsgChosen, Slot: 1}, false},
		"fetch":            {api.Msg{Kind: api.MsgFetch}, false},
		"forward":          {api.Msg{Kind: api.MsgForward}, false},
		"beat for another": {api.Msg{Kind: api.MsgBeat, To: 2, Ballot: 16}, false},
	} {
		n := open(t, 1, three)
		n.On(api.Msg{Kind: api.MsgPrepare, From: 0, To: 1, Ballot: 16, Slot: 1})
		ticks(t, n, 5)
		if x.msg.To == 0 {
			x.msg.To = 1
		}
		n.On(x.msg)
		ticks(t, n, 8)
		out, _, _ := n.Tick()
		if off := len(out) == 0; off != x.off {
			t.Errorf("%s: put off %v", name, off)
		}
		if x.off {
			ticks(t, n, 4)
			if out, _, _ := n.Tick(); len(out) != 2 || out[0].Kind != api.MsgPrepare {
				t.Errorf("%s: %+v", name, out)
			}
		}
	}
}

// A try is for the slots that the chain lacks.
func TestTryFrom(t *testing.T) {
	n := open(t, 1, three)
	for _, slot := range []int{1, 2, 4} {
		chosen(n, 1, slot, api.Cmd{ID: 40 + slot})
	}
	ticks(t, n, 13)
	tick(t, n, prepare(1, 1, 3)...)
	// Slot 4 is known, slot 3 is a gap ahead of a vote in slot 5.
	want := append(accepts(1, 3, api.Cmd{}), accepts(1, 5, bCmd)...)
	hears(t, n, api.Msg{Kind: api.MsgPromise, From: 2, To: 1, Ballot: 1, Votes: []api.Vote{{Slot: 5, Ballot: 1, Cmd: bCmd}}}, want...)
}

// There is no ballot above the greatest number.
func TestNoBallot(t *testing.T) {
	for ballot, want := range map[int]int{api.MaxNumber - 16: api.MaxNumber - 15, api.MaxNumber - 15: 0, api.MaxNumber: 0} {
		n := open(t, 1, three)
		hears(t, n, api.Msg{Kind: api.MsgRefuse, From: 0, To: 1, Ballot: ballot})
		ticks(t, n, 13)
		if want > 0 {
			tick(t, n, prepare(1, want, 1)...)
		} else {
			ticks(t, n, 40)
		}
	}
	n := open(t, 0, three) // MaxNumber's rest by 16 is 0
	hears(t, n, api.Msg{Kind: api.MsgRefuse, From: 1, To: 0, Ballot: api.MaxNumber - 16})
	ticks(t, n, 9)
	tick(t, n, prepare(0, api.MaxNumber, 1)...)
	ticks(t, n, 40)
}

// A leader beats, and proposes again what is open; it hears of itself.
func TestLeaderTicks(t *testing.T) {
	n := leads3(t) // tick 14
	beat := func(slot int) []api.Msg {
		return toThree(api.Msg{Kind: api.MsgBeat, From: 1, Ballot: 1, Slot: slot})
	}
	ticks(t, n, 1)
	tick(t, n, beat(1)...) // tick 16
	hears(t, n, api.Msg{Kind: api.MsgForward, From: 0, To: 1, Cmd: aCmd}, accepts(1, 1, aCmd)...)
	hears(t, n, api.Msg{Kind: api.MsgForward, From: 0, To: 1, Cmd: bCmd}, accepts(1, 2, bCmd)...)
	ticks(t, n, 3)
	want := append(beat(1), accepts(1, 1, aCmd)...)
	tick(t, n, append(want, accepts(1, 2, bCmd)...)...) // tick 20
	hears(t, n, api.Msg{Kind: api.MsgAccepted, From: 0, To: 1, Ballot: 1, Slot: 1}, chosens(1, aCmd)...)
	ticks(t, n, 3)
	tick(t, n, append(beat(2), accepts(1, 2, bCmd)...)...) // tick 24
	hears(t, n, api.Msg{Kind: api.MsgAccepted, From: 0, To: 1, Ballot: 1, Slot: 2}, chosens(2, bCmd)...)
	for range 10 {
		ticks(t, n, 3)
		tick(t, n, beat(3)...)
	}
	if !n.Leads() {
		t.Fatal("it leads no more")
	}
}

// A leader that is refused waits anew, from the last tick at which it led.
func TestLeaderThatLost(t *testing.T) {
	n := leads3(t)
	n.Tick() // 15
	n.On(api.Msg{Kind: api.MsgRefuse, From: 0, To: 1, Ballot: 18})
	ticks(t, n, 13)
	tick(t, n, prepare(1, 33, 1)...)
}

// What a leader wants it proposes itself; if it was one, it forwards it to
// nobody else than whom it takes for the leader.
func TestLeaderWants(t *testing.T) {
	n := leads3(t)
	out, told, e := n.Admin(api.Cmd{Kind: api.CmdRetire, Node: 2})
	c := api.Cmd{ID: id(1, 1, 1), Kind: api.CmdRetire, Node: 2}
	sends(t, out, told, e, accepts(1, 1, c)...)
	for range 9 { // at the eighth one it is sent to itself, and is in the queue
		out, _, _ := n.Tick()
		for _, m := range out {
			if m.Kind == api.MsgForward || m.Slot != 1 {
				t.Fatalf("sends %+v", m)
			}
		}
	}
	n.On(api.Msg{Kind: api.MsgRefuse, From: 0, To: 1, Ballot: 18})
	out, told, e = n.Admin(api.Cmd{Kind: api.CmdRetire, Node: 0})
	sends(t, out, told, e) // it takes itself for the leader, and does not lead
	busyIs(t, n, 2)
	hears(t, n, api.Msg{Kind: api.MsgBeat, From: 2, To: 1, Ballot: 18, Slot: 1})
	forwards := []api.Msg{}
	for range 8 {
		out, _, _ := n.Tick()
		forwards = append(forwards, out...)
	}
	msgsAre(t, forwards,
		api.Msg{Kind: api.MsgForward, From: 1, To: 2, Cmd: c},
		api.Msg{Kind: api.MsgForward, From: 1, To: 2, Cmd: api.Cmd{ID: id(1, 2, 1), Kind: api.CmdRetire, Node: 0}})
}

// Other voters count Alpha slots later: a leader goes no further than they
// promised.
func TestVotersChange(t *testing.T) {
	n := leads3(t) // by the promises of 0 and 1
	voters := api.Cmd{ID: 50, Kind: api.CmdVoters, Nodes: []int{2}}
	hears(t, n, api.Msg{Kind: api.MsgForward, From: 0, To: 1, Cmd: voters}, accepts(1, 1, voters)...)
	hears(t, n, api.Msg{Kind: api.MsgAccepted, From: 0, To: 1, Ballot: 1, Slot: 1}, chosens(1, voters)...)
	cmd := func(slot int) api.Cmd { return api.Cmd{ID: 50 + slot, Kind: api.CmdGet, Key: "x"} }
	for slot := 2; slot <= 6; slot++ {
		var want []api.Msg
		if slot <= 4 { // slot 5 is that of node 2 alone
			want = accepts(1, slot, cmd(slot))
		}
		hears(t, n, api.Msg{Kind: api.MsgForward, From: 0, To: 1, Cmd: cmd(slot)}, want...)
	}
	for slot := 2; slot <= 4; slot++ {
		if !n.Leads() {
			t.Fatalf("it does not lead at slot %d", slot)
		}
		hears(t, n, api.Msg{Kind: api.MsgAccepted, From: 0, To: 1, Ballot: 1, Slot: slot}, chosens(slot, cmd(slot))...)
	}
	if n.Leads() || n.State().Slot() != 5 {
		t.Fatal("it leads where it has no promises")
	}
	hears(t, n, api.Msg{Kind: api.MsgPromise, From: 2, To: 1, Ballot: 1}, append(accepts(1, 5, cmd(5)), accepts(1, 6, cmd(6))...)...)
	if !n.Leads() {
		t.Fatal("it does not lead")
	}
	hears(t, n, api.Msg{Kind: api.MsgAccepted, From: 0, To: 1, Ballot: 1, Slot: 5})
	hears(t, n, api.Msg{Kind: api.MsgAccepted, From: 2, To: 1, Ballot: 1, Slot: 5}, chosens(5, cmd(5))...)
}

// A queue outlives a try.
func TestQueueStays(t *testing.T) {
	n := leads3(t)
	hears(t, n, api.Msg{Kind: api.MsgForward, From: 0, To: 1, Cmd: bCmd}, accepts(1, 1, bCmd)...)
	n.On(api.Msg{Kind: api.MsgRefuse, From: 0, To: 1, Ballot: 18})
	for range 14 {
		n.Tick()
	}
	hears(t, n, api.Msg{Kind: api.MsgPromise, From: 2, To: 1, Ballot: 33}, accepts(33, 1, bCmd)...) // bound by its own vote
	chosen(n, 1, 1, api.Cmd{ID: 70})
	out, _, _ := n.On(api.Msg{Kind: api.MsgForward, From: 0, To: 1, Cmd: aCmd})
	msgsAre(t, out, accepts(33, 2, aCmd)...) // bCmd was proposed in an open slot of this try
	n.On(api.Msg{Kind: api.MsgRefuse, From: 0, To: 1, Ballot: 34})
	for range 14 {
		n.Tick()
	}
	hears(t, n, api.Msg{Kind: api.MsgPromise, From: 2, To: 1, Ballot: 49}, append(accepts(49, 2, aCmd), accepts(49, 3, bCmd)...)...)
}
