package node_test

import (
	"bytes"
	"fmt"
	"math"
	"reflect"
	"testing"

	"amphora/api"
	"amphora/node"
	"amphora/plate"
	"amphora/shelf"
)

// three is three nodes that vote, and two shards of each blob.
var three = api.Setup{Nodes: 3, Voters: 3, Sectors: 400, Code: api.Code{K: 1, M: 1}}

// one is one node all alone.
var one = api.Setup{Nodes: 1, Voters: 1, Sectors: 400, Code: api.Code{K: 1}}

func newPlate(t *testing.T, sectors int) *plate.Plate {
	t.Helper()
	p, e := plate.New(sectors)
	is(t, "plate", e, api.OK)
	return p
}

func open(t *testing.T, self int, s api.Setup) *node.Node {
	t.Helper()
	return openOn(t, self, s, newPlate(t, 400))
}

func openOn(t *testing.T, self int, s api.Setup, p *plate.Plate) *node.Node {
	t.Helper()
	n, e := node.Open(self, s, p)
	if e != api.OK || n == nil {
		t.Fatalf("Open: %v, %v", n, e)
	}
	return n
}

// id is the number of a node's command.
func id(life, count, self int) int { return (life*65536+count)*16 + self }

// sends holds what a node answers against messages; it tells nothing.
func sends(t *testing.T, out []api.Msg, told []api.Told, e api.Errno, want ...api.Msg) {
	t.Helper()
	is(t, "error", e, api.OK)
	if len(told) != 0 {
		t.Fatalf("told %+v", told)
	}
	msgsAre(t, out, want...)
}

func msgsAre(t *testing.T, out []api.Msg, want ...api.Msg) {
	t.Helper()
	if got, want := fmt.Sprintf("%+v", out), fmt.Sprintf("%+v", want); got != want {
		t.Fatalf("sends\n%s\nwant\n%s", got, want)
	}
}

// hears has a node hear a message, and send some.
func hears(t *testing.T, n *node.Node, m api.Msg, want ...api.Msg) {
	t.Helper()
	out, told, e := n.On(m)
	sends(t, out, told, e, want...)
}

// ticks has a node hear of time; it sends and tells nothing.
func ticks(t *testing.T, n *node.Node, count int) {
	t.Helper()
	for i := range count {
		if out, told, e := n.Tick(); len(out) != 0 || len(told) != 0 || e != api.OK {
			t.Fatalf("tick %d of %d: %+v, %+v, %v", i+1, count, out, told, e)
		}
	}
}

// tick has a node hear of a tick, and send some messages.
func tick(t *testing.T, n *node.Node, want ...api.Msg) {
	t.Helper()
	out, told, e := n.Tick()
	sends(t, out, told, e, want...)
}

// says holds what a node answers against one answer; it sends nothing.
func says(t *testing.T, out []api.Msg, told []api.Told, e api.Errno, want ...api.Told) {
	t.Helper()
	is(t, "error", e, api.OK)
	msgsAre(t, out)
	toldIs(t, told, want...)
}

func toldIs(t *testing.T, told []api.Told, want ...api.Told) {
	t.Helper()
	if got, want := fmt.Sprintf("%+v", told), fmt.Sprintf("%+v", want); got != want {
		t.Fatalf("told %s, want %s", got, want)
	}
}

func busyIs(t *testing.T, n *node.Node, want int) {
	t.Helper()
	if n.Busy() != want {
		t.Fatalf("busy %d, want %d", n.Busy(), want)
	}
}

// leading is one node all alone that leads.
func leading(t *testing.T) *node.Node {
	t.Helper()
	n := open(t, 0, one)
	ticks(t, n, 10)
	return n
}

// Example 1 of the chapter.
func TestExample(t *testing.T) {
	n := open(t, 0, one)
	ticks(t, n, 9)
	if n.Leads() {
		t.Fatal("it leads at the ninth tick")
	}
	ticks(t, n, 1)
	if !n.Leads() {
		t.Fatal("it does not lead at the tenth tick")
	}
	out, told, e := n.Ask(api.Ask{ID: 4, Kind: api.AskPut, Key: "a", Bytes: []byte("xyz")})
	says(t, out, told, e, api.Told{ID: 4, Says: api.SaysOK})
}

// One node all alone answers each call at once.
func TestAlone(t *testing.T) {
	n := leading(t)
	for i, x := range []struct {
		ask  api.Ask
		want api.Told
	}{
		{api.Ask{Kind: api.AskGet, Key: "a"}, api.Told{Says: api.SaysMissing}},
		{api.Ask{Kind: api.AskDelete, Key: "a"}, api.Told{Says: api.SaysMissing}},
		{api.Ask{Kind: api.AskPut, Key: "a", Bytes: whole(20)}, api.Told{Says: api.SaysOK}},
		{api.Ask{Kind: api.AskPut, Key: "a", Bytes: whole(20)}, api.Told{Says: api.SaysThere}},
		{api.Ask{Kind: api.AskGet, Key: "a"}, api.Told{Says: api.SaysOK, Bytes: whole(20)}},
		{api.Ask{Kind: api.AskPut, Key: "b"}, api.Told{Says: api.SaysOK}},
		{api.Ask{Kind: api.AskGet, Key: "b"}, api.Told{Says: api.SaysOK}},
		{api.Ask{Kind: api.AskPut, Key: "c", Bytes: whole(api.MaxBlob)}, api.Told{Says: api.SaysOK}},
		{api.Ask{Kind: api.AskGet, Key: "c"}, api.Told{Says: api.SaysOK, Bytes: whole(api.MaxBlob)}},
		{api.Ask{Kind: api.AskDelete, Key: "a"}, api.Told{Says: api.SaysOK}},
		{api.Ask{Kind: api.AskDelete, Key: "a"}, api.Told{Says: api.SaysMissing}},
		{api.Ask{Kind: api.AskPut, Key: "a"}, api.Told{Says: api.SaysThere}},
		{api.Ask{Kind: api.AskGet, Key: "a"}, api.Told{Says: api.SaysMissing}},
	} {
		x.ask.ID, x.want.ID = 100+i, 100+i
		out, told, e := n.Ask(x.ask)
		says(t, out, told, e, x.want)
		busyIs(t, n, 0)
		if n.State().Slot() != i+2 {
			t.Fatalf("slot %d behind %d calls", n.State().Slot(), i+1)
		}
	}
}

// P20.1: sizes, nodes and plates of which there is no node. What is wrong with
// the first two goes ahead, and leaves the plate.
func TestOpen(t *testing.T) {
	for _, x := range []struct {
		name string
		self int
		as   func(s *api.Setup)
		want api.Errno
	}{
		{"as it is", 0, func(s *api.Setup) {}, api.OK},
		{"self least", math.MinInt, func(s *api.Setup) {}, api.ErrArg},
		{"self -1", -1, func(s *api.Setup) {}, api.ErrArg},
		{"self 2", 2, func(s *api.Setup) {}, api.OK},
		{"self 3", 3, func(s *api.Setup) {}, api.ErrArg},
		{"self 15", 15, func(s *api.Setup) { s.Nodes = 16 }, api.OK},
		{"self 16", 16, func(s *api.Setup) { s.Nodes = 16 }, api.ErrArg},
		{"nodes 17", 0, func(s *api.Setup) { s.Nodes = 17 }, api.ErrArg},
		{"nodes 0", 0, func(s *api.Setup) { s.Nodes = 0 }, api.ErrArg},
		{"nodes -1", 0, func(s *api.Setup) { s.Nodes = -1 }, api.ErrArg},
		{"voters 0", 0, func(s *api.Setup) { s.Voters = 0 }, api.ErrArg},
		{"voters 1", 0, func(s *api.Setup) { s.Voters = 1 }, api.OK},
		{"voters 4", 0, func(s *api.Setup) { s.Voters = 4 }, api.ErrArg},
		{"no code", 0, func(s *api.Setup) { s.Code = api.Code{} }, api.ErrArg},
		{"as wide", 0, func(s *api.Setup) { s.Code = api.Code{K: 2, M: 1} }, api.OK},
		{"too wide", 0, func(s *api.Setup) { s.Code = api.Code{K: 2, M: 2} }, api.ErrArg},
		{"no sectors", 0, func(s *api.Setup) { s.Sectors = 0 }, api.OK},
		{"sectors below 0", 0, func(s *api.Setup) { s.Sectors = -1 }, api.OK},
	} {
		s := three
		x.as(&s)
		p := newPlate(t, 20)
		n, e := node.Open(x.self, s, p)
		if e != x.want || (n != nil) != (e == api.OK) {
			t.Errorf("%s: %v, %v, want %v", x.name, n, e, x.want)
		}
		if e != api.OK && !reflect.DeepEqual(p.Image(), newPlate(t, 20).Image()) {
			t.Errorf("%s: the plate is written", x.name)
		}
		want := api.ErrNil
		if x.want != api.OK {
			want = x.want
		}
		if n, e := node.Open(x.self, s, nil); n != nil || e != want {
			t.Errorf("%s, without a plate: %v, %v", x.name, n, e)
		}
	}
}

func TestPlates(t *testing.T) {
	failed, noted, wrong := newPlate(t, 20), newPlate(t, 20), newPlate(t, 20)
	failed.Fail()
	s, _ := shelf.Open(noted)
	s.Note(1, []byte("no vote"))
	s.Sync()
	wrong.Write(3, bytes.Repeat([]byte{7}, api.Size))
	wrong.Sync()
	for _, x := range []struct {
		name  string
		plate *plate.Plate
		want  api.Errno
	}{
		{"none", nil, api.ErrNil},
		{"a plain one", &plate.Plate{}, api.ErrNil},
		{"one that failed", failed, api.ErrDead},
		{"a small one", newPlate(t, 5), api.ErrArg},
		{"the least one", newPlate(t, 6), api.OK},
		{"no log", wrong, api.ErrLog},
		{"no votes", noted, api.ErrLog},
	} {
		n, e := node.Open(0, three, x.plate)
		if e != x.want || (n != nil) != (e == api.OK) {
			t.Errorf("%s: %v, %v, want %v", x.name, n, e, x.want)
		}
		if n, e := node.Open(3, three, x.plate); n != nil || e != api.ErrArg {
			t.Errorf("%s, and no node: %v, %v", x.name, n, e)
		}
	}
}

// A new node has nothing, and does not lead.
func TestNew(t *testing.T) {
	n := open(t, 1, three)
	if n.Leads() || n.Busy() != 0 || n.Life() != 1 || len(n.Held()) != 0 {
		t.Fatalf("%v, %d, %d, %v", n.Leads(), n.Busy(), n.Life(), n.Held())
	}
	if s := n.State(); s.Slot() != 1 || s.Epoch() != 1 || len(s.Members()) != 3 || s.Code() != three.Code {
		t.Fatal("another state")
	}
}

// P20.2: what is told of a node is a copy.
func TestCopies(t *testing.T) {
	n := leading(t)
	n.Ask(api.Ask{ID: 1, Kind: api.AskPut, Key: "a", Bytes: whole(9)})
	s, held := n.State(), n.Held()
	s.Apply(api.Cmd{ID: 5, Kind: api.CmdDelete, Key: "a"})
	spoil(held[0].Bytes, 0xee)
	spoil(held, api.Held{})
	if _, ok := n.State().Blob("a"); !ok || n.State().Slot() != 2 || s.Slot() != 3 {
		t.Fatal("a state that was told is the node's")
	}
	if h := n.Held(); len(h) != 1 || !bytes.Equal(h[0].Bytes[:9], whole(9)) {
		t.Fatalf("held %v", h)
	}
	out, told, e := n.Ask(api.Ask{ID: 2, Kind: api.AskGet, Key: "a"})
	says(t, out, told, e, api.Told{ID: 2, Says: api.SaysOK, Bytes: whole(9)})
}

// Behind a crash a node has what was synced; it learns what was chosen anew,
// and its numbers are others.
func TestCrash(t *testing.T) {
	p := newPlate(t, 400)
	n := openOn(t, 0, one, p)
	ticks(t, n, 10)
	for _, key := range []string{"a", "b"} {
		out, told, e := n.Ask(api.Ask{ID: 1, Kind: api.AskPut, Key: key, Bytes: whole(20)})
		says(t, out, told, e, api.Told{ID: 1, Says: api.SaysOK})
	}
	before, held := n.State(), n.Held()
	for life := 2; life < 5; life++ {
		is(t, "Crash", p.Crash(nil, -1, 0), api.OK)
		n = openOn(t, 0, one, p)
		if n.Life() != life || n.Leads() || n.State().Slot() != 1 || !reflect.DeepEqual(n.Held(), held) {
			t.Fatalf("life %d: %d, %v, %d", life, n.Life(), n.Leads(), n.State().Slot())
		}
		ticks(t, n, 10)
		if !n.Leads() || !n.State().Same(before) {
			t.Fatal("another state behind a crash")
		}
		out, told, e := n.Ask(api.Ask{ID: 2, Kind: api.AskGet, Key: "b"})
		says(t, out, told, e, api.Told{ID: 2, Says: api.SaysOK, Bytes: whole(20)})
		before = n.State()
		if _, _, e := n.Admin(api.Cmd{Kind: api.CmdRecode, Key: "a", Code: api.Code{K: 1}}); e != api.OK {
			t.Fatal(e)
		}
		b, _ := n.State().Blob("a")
		if b.ID != id(life, 2, 0) {
			t.Fatalf("number %d in life %d", b.ID, life)
		}
		before, held = n.State(), n.Held()
	}
}

// What a node wanted, and its calls, are gone behind a crash; what it promised
// and accepted is not.
func TestCrashOfWants(t *testing.T) {
	p := newPlate(t, 400)
	n := openOn(t, 1, three, p)
	n.Ask(api.Ask{ID: 1, Kind: api.AskGet, Key: "a"})
	n.Admin(api.Cmd{Kind: api.CmdRetire, Node: 2})
	busyIs(t, n, 3)
	c := api.Cmd{ID: 9, Kind: api.CmdDelete, Key: "a"}
	hears(t, n, api.Msg{Kind: api.MsgAccept, From: 2, To: 1, Ballot: 34, Slot: 7, Cmd: c}, api.Msg{Kind: api.MsgAccepted, From: 1, To: 2, Ballot: 34, Slot: 7})
	is(t, "Crash", p.Crash(nil, -1, 0), api.OK)
	n = openOn(t, 1, three, p)
	busyIs(t, n, 0)
	hears(t, n, api.Msg{Kind: api.MsgPrepare, From: 0, To: 1, Ballot: 33, Slot: 1}, api.Msg{Kind: api.MsgRefuse, From: 1, To: 0, Ballot: 34})
	hears(t, n, api.Msg{Kind: api.MsgPrepare, From: 2, To: 1, Ballot: 34, Slot: 1},
		api.Msg{Kind: api.MsgPromise, From: 1, To: 2, Ballot: 34, Slot: 1, Votes: []api.Vote{{Slot: 7, Ballot: 34, Cmd: c}}})
	is(t, "Crash", p.Crash(nil, -1, 0), api.OK)
	n = openOn(t, 1, three, p) // the highest ballot that it met is the promised one
	ticks(t, n, 13)
	tick(t, n, api.Msg{Kind: api.MsgPrepare, From: 1, To: 0, Ballot: 49, Slot: 1}, api.Msg{Kind: api.MsgPrepare, From: 1, To: 2, Ballot: 49, Slot: 1})
}

// Nodes that no call made.
func TestNil(t *testing.T) {
	for name, n := range map[string]*node.Node{"nil": nil, "plain": {}} {
		for call, f := range map[string]func() ([]api.Msg, []api.Told, api.Errno){
			"Ask":      func() ([]api.Msg, []api.Told, api.Errno) { return n.Ask(api.Ask{ID: 1, Kind: 1, Key: "a"}) },
			"Admin":    func() ([]api.Msg, []api.Told, api.Errno) { return n.Admin(api.Cmd{Kind: api.CmdFail}) },
			"no Admin": func() ([]api.Msg, []api.Told, api.Errno) { return n.Admin(api.Cmd{}) },
			"On":       func() ([]api.Msg, []api.Told, api.Errno) { return n.On(api.Msg{Kind: api.MsgFetch}) },
			"Tick":     n.Tick,
		} {
			if out, told, e := f(); len(out) != 0 || len(told) != 0 || e != api.ErrNil {
				t.Errorf("%s of %s: %v, %v, %v", call, name, out, told, e)
			}
		}
		if n.State() != nil || len(n.Held()) != 0 || n.Leads() || n.Busy() != 0 || n.Life() != 0 {
			t.Errorf("%s: tells something", name)
		}
	}
}
