package cluster_test

import (
	"fmt"
	"testing"

	"amphora/api"
	"amphora/cluster"
	"amphora/epoch"
)

func setup(nodes, voters, sectors, k, m int) api.Setup {
	return api.Setup{Nodes: nodes, Voters: voters, Sectors: sectors, Code: api.Code{K: k, M: m}}
}

// P21.1: how many sectors there may be.
func TestSectors(t *testing.T) {
	for _, sectors := range []int{-1 << 63, -6, -1, 0, 1, 5, api.MaxSectors + 1, 1<<63 - 1} {
		if c, e := cluster.New(setup(3, 3, sectors, 2, 1)); c != nil || e != api.ErrArg {
			t.Errorf("%d sectors: %v, %v", sectors, c, e)
		}
	}
	for _, sectors := range []int{6, 7, 100, api.MaxSectors} {
		c, e := cluster.New(setup(3, 3, sectors, 2, 1))
		is(t, "New", e, api.OK)
		for i := range 3 {
			if c.Plate(i).Sectors() != sectors || c.State(i) == nil {
				t.Errorf("%d sectors: %d, and a state %v", sectors, c.Plate(i).Sectors(), c.State(i))
			}
		}
		is(t, "settle", c.Do(api.Step{Kind: api.StepSettle, N: 40}), api.OK)
	}
}

// P21.1: sizes that epoch.New refuses.
func TestSetups(t *testing.T) {
	for nodes := -1; nodes <= api.MaxNodes+1; nodes++ {
		for voters := -1; voters <= api.MaxNodes+1; voters++ {
			for _, code := range []api.Code{{}, {K: 1}, {K: 2, M: 1}, {M: 1}, {K: 9, M: 7}, {K: 10, M: 7}, {K: 1, M: -1}} {
				s := api.Setup{Nodes: nodes, Voters: voters, Sectors: 6, Code: code}
				_, want := epoch.New(s)
				c, e := cluster.New(s)
				if e != want || (c == nil) != (e != api.OK) {
					t.Errorf("New of %+v: %v, %v, want %v", s, c, e, want)
				}
			}
		}
	}
}

// P21.1: what a new cluster has.
func TestNew(t *testing.T) {
	s := setup(4, 2, 60, 2, 1)
	c, e := cluster.New(s)
	is(t, "New", e, api.OK)
	first, _ := epoch.New(s)
	if len(c.Journal()) != 0 || len(c.Packets()) != 0 || c.Busy() != 0 {
		t.Errorf("journal %v, packets %v, busy %d", c.Journal(), c.Packets(), c.Busy())
	}
	for i := range 4 {
		if c.Now(i) != 0 || !c.State(i).Same(first) || c.Plate(i).Failed() || len(c.Plate(i).Dirty()) != 0 {
			t.Errorf("node %d: now %d, its state or its plate", i, c.Now(i))
		}
		if fmt.Sprint(c.Plate(i).Image()[2:]) != fmt.Sprint(make([][api.Size]byte, 58)) {
			t.Errorf("node %d: something is on its plate", i)
		}
		for j := range i {
			if c.Plate(i) == c.Plate(j) {
				t.Errorf("nodes %d and %d have one plate", i, j)
			}
		}
	}
}

// P21.3: what is told of nodes that are not there, and of nodes that do not
// run.
func TestNodesThatAreNotThere(t *testing.T) {
	p := newPair(t, setup(3, 3, 100, 2, 1))
	p.settle(5)
	for _, i := range []int{-1 << 63, -1, 3, 4, 1<<63 - 1} {
		if p.real.Plate(i) != nil || p.real.State(i) != nil || p.real.Now(i) != 0 {
			t.Errorf("node %d is not there: %v, %v, %d", i, p.real.Plate(i), p.real.State(i), p.real.Now(i))
		}
	}
	for i := range 3 {
		if p.real.Plate(i) == nil || p.real.State(i) == nil || p.real.Now(i) != 5 {
			t.Errorf("node %d is there: %v, %v, %d", i, p.real.Plate(i), p.real.State(i), p.real.Now(i))
		}
	}
	was := p.real.Plate(1)
	for _, kind := range []int{api.StepCrash, api.StepFail} {
		is(t, "end", p.at(kind, 1), api.OK)
		if p.real.State(1) != nil || p.real.Plate(1) != was {
			t.Errorf("a node that does not run: state %v, another plate %v", p.real.State(1), p.real.Plate(1) != was)
		}
		before := p.real.Now(1)
		p.settle(3)
		if p.real.Now(1) != before+3 {
			t.Errorf("the clock of a node that does not run: %d behind %d", p.real.Now(1), before)
		}
	}
}

// P21.3: Busy is the sum over the nodes that run.
func TestBusy(t *testing.T) {
	p := newPair(t, setup(3, 3, 100, 1, 0))
	for i := range 3 {
		for n := range i + 1 {
			p.ask(i, api.AskGet, fmt.Sprint("k", n), nil)
			p.same()
		}
	}
	if p.real.Busy() != 2*(1+2+3) { // each call is open, and has a want
		t.Fatalf("busy %d", p.real.Busy())
	}
	for _, x := range []struct{ kind, node, left int }{{api.StepCrash, 1, 8}, {api.StepFail, 2, 2}, {api.StepStart, 1, 2}, {api.StepCrash, 0, 0}} {
		is(t, "step", p.at(x.kind, x.node), api.OK)
		if p.real.Busy() != x.left {
			t.Fatalf("behind %+v: busy %d", x, p.real.Busy())
		}
		p.same()
	}
}

// Clusters that no call made.
func TestNoCluster(t *testing.T) {
	for _, c := range []*cluster.Cluster{nil, {}, new(cluster.Cluster)} {
		for kind := -1; kind < 13; kind++ {
			for _, i := range []int{-1, 0, 1, 16} {
				is(t, "Do", c.Do(api.Step{Kind: kind, Node: i, N: i}), api.ErrNil)
			}
		}
		if len(c.Journal()) != 0 || len(c.Packets()) != 0 || c.Busy() != 0 {
			t.Error("a cluster that no call made has something")
		}
		for _, i := range []int{-1, 0, 1, 16} {
			if c.Plate(i) != nil || c.State(i) != nil || c.Now(i) != 0 {
				t.Errorf("a cluster that no call made has a node %d", i)
			}
		}
	}
}

// The chapter's example.
func TestExample(t *testing.T) {
	p := newPair(t, setup(1, 1, 100, 1, 0))
	for range 10 {
		is(t, "tick", p.at(api.StepTick, 0), api.OK)
	}
	is(t, "put", p.ask(0, api.AskPut, "a", []byte{65}), api.OK)
	want := []api.Event{{ID: 1, Kind: api.AskPut, Key: "a", Bytes: []byte{65}}, {Answer: true, ID: 1, Kind: api.SaysOK}}
	if got := p.real.Journal(); fmt.Sprintf("%+v", got) != fmt.Sprintf("%+v", want) {
		t.Fatalf("%+v", got)
	}
	p.same()
}
