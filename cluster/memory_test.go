package cluster_test

import (
	"fmt"
	"slices"
	"testing"

	"amphora/api"
	"amphora/cluster"
)

// loaded is a cluster with calls, answers and packets of all that they may
// have.
func loaded(t *testing.T) *pair {
	t.Helper()
	p := three(t)
	p.ask(1, api.AskPut, "a", whole(20))
	p.settle(10)
	p.ask(2, api.AskGet, "a", nil)
	p.settle(10)
	p.admin(0, api.Cmd{Kind: api.CmdVoters, Nodes: []int{0, 1}})
	p.ask(2, api.AskPut, "b", whole(30))
	return p
}

// What one answer has no other one has: each may be written over alone.
func TestAnswersAreApart(t *testing.T) {
	p := loaded(t)
	one, other, want := p.real.Journal(), p.real.Journal(), fmt.Sprintf("%+v", p.like.lines)
	for i, x := range one {
		spoil(x.Bytes, byte(i))
	}
	spoil(one, api.Event{ID: 5, Bytes: []byte{1}})
	if fmt.Sprintf("%+v", other) != want {
		t.Error("two journals share memory")
	}
	packets, others := p.real.Packets(), p.real.Packets()
	before := fmt.Sprintf("%+v", others)
	nodes := 0
	for _, x := range packets {
		nodes += len(x.Msg.Cmd.Nodes)
		spoil(x.Msg.Cmd.Nodes, 13)
		spoil(x.Msg.Bytes, 0xee)
	}
	spoil(packets, api.Sent{ID: 5})
	if fmt.Sprintf("%+v", others) != before {
		t.Error("two lists of packets share memory")
	}
	if nodes == 0 {
		t.Error("no packet has a list of nodes: too few to tell")
	}
	state := p.real.State(0)
	state.Apply(api.Cmd{ID: 5, Kind: api.CmdRetire, Node: 1})
	if state.Same(p.real.State(0)) || p.real.State(0) == p.real.State(0) {
		t.Error("a state is no copy")
	}
	p.same()
	p.settle(30)
	p.same()
}

// What was told stays as it is, whatever the cluster does later.
func TestAnswersStay(t *testing.T) {
	p := loaded(t)
	journal, packets, state := p.real.Journal(), p.real.Packets(), p.real.State(1)
	text, slot := fmt.Sprintf("%+v %+v", journal, packets), state.Slot()
	p.settle(40)
	p.ask(1, api.AskDelete, "a", nil)
	p.settle(10)
	if fmt.Sprintf("%+v %+v", journal, packets) != text || state.Slot() != slot {
		t.Error("what was told has changed")
	}
	if p.real.State(1).Slot() == slot || len(p.real.Journal()) == len(journal) {
		t.Error("nothing has happened: too little to tell")
	}
}

// Two clusters, and what is handed to New, have nothing in common.
func TestClustersAreApart(t *testing.T) {
	s := setup(3, 3, 400, 2, 1)
	one, e := cluster.New(s)
	is(t, "New", e, api.OK)
	other, e := cluster.New(s)
	is(t, "New", e, api.OK)
	is(t, "settle", one.Do(api.Step{Kind: api.StepSettle, N: 20}), api.OK)
	is(t, "ask", one.Do(api.Step{Kind: api.StepAsk, Ask: api.Ask{Kind: api.AskPut, Key: "a"}}), api.OK)
	is(t, "fail", one.Do(api.Step{Kind: api.StepFail, Node: 1}), api.OK)
	if other.Now(0) != 0 || len(other.Packets()) != 0 || len(other.Journal()) != 0 || other.Plate(1).Failed() || other.State(1) == nil {
		t.Error("two clusters have something in common")
	}
	is(t, "ask", other.Do(api.Step{Kind: api.StepAsk, Ask: api.Ask{Kind: api.AskPut, Key: "a"}}), api.OK)
	if other.Journal()[0].ID != 1 || slices.ContainsFunc(other.Packets(), func(x api.Sent) bool { return x.ID > 2 }) {
		t.Error("two clusters count together")
	}
}
