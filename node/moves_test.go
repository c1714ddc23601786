package node_test

import (
	"bytes"
	"testing"

	"amphora/api"
	"amphora/frame"
	"amphora/node"
	"amphora/stripe"
)

// five is five nodes that vote.
var five = api.Setup{Nodes: 5, Voters: 5, Code: api.Code{K: 1, M: 1}}

// putOn is the command that puts a key of 20 bytes on nodes, by K 1.
func putOn(id int, key string, nodes ...int) api.Cmd {
	return api.Cmd{ID: id, Kind: api.CmdPut, Key: key, Size: 20, Sum: frame.Sum(whole(20)), Code: api.Code{K: 1, M: len(nodes) - 1}, Nodes: nodes}
}

// shard is one of those of 20 bytes, by K 1.
func shard(t *testing.T, m, index int) []byte {
	t.Helper()
	shards, e := stripe.Cut(api.Code{K: 1, M: m}, whole(20))
	is(t, "Cut", e, api.OK)
	return shards[index]
}

// follower is node 4 of five, that takes node 0 for the leader, and has
// learned some commands.
func follower(t *testing.T, cmds ...api.Cmd) *node.Node {
	t.Helper()
	n := openOn(t, 4, five, newPlate(t, 1000))
	hears(t, n, api.Msg{Kind: api.MsgBeat, From: 0, To: 4, Ballot: 16, Slot: 1})
	for i, c := range cmds {
		out, told, e := chosen(n, 4, i+1, c)
		sends(t, out, told, e)
	}
	return n
}

// learns has the node learn its next command, and send some messages.
func learns(t *testing.T, n *node.Node, c api.Cmd, want ...api.Msg) {
	t.Helper()
	out, told, e := chosen(n, 4, n.State().Slot(), c)
	sends(t, out, told, e, want...)
}

func fetch(to, blob, index, epoch int) api.Msg {
	return api.Msg{Kind: api.MsgFetch, From: 4, To: to, Blob: blob, Index: index, Epoch: epoch}
}

func fetched(from, blob, index int, b []byte) api.Msg {
	return api.Msg{Kind: api.MsgFetched, From: from, To: 4, Blob: blob, Index: index, OK: true, Bytes: b}
}

func fence(to, blob, index, epoch int) api.Msg {
	return api.Msg{Kind: api.MsgFence, From: 4, To: to, Blob: blob, Index: index, Epoch: epoch}
}

func fenced(from, blob, index int) api.Msg {
	return api.Msg{Kind: api.MsgFenced, From: from, To: 4, Blob: blob, Index: index, OK: true}
}

// forward is a command of node 4 on its way to node 0.
func forward(c api.Cmd) api.Msg { return api.Msg{Kind: api.MsgForward, From: 4, To: 0, Cmd: c} }

func move(id, blob, index int) api.Cmd {
	return api.Cmd{ID: id, Kind: api.CmdMove, Blob: blob, Index: index, Node: 4}
}

func switched(count, blob, index int) api.Cmd {
	return api.Cmd{ID: id(1, count, 4), Kind: api.CmdSwitch, Blob: blob, Index: index, Node: 4}
}

// A move from its beginning to its end.
func TestMove(t *testing.T) {
	n := follower(t, putOn(40, "a", 1, 2), api.Cmd{ID: 41, Kind: api.CmdWidth, Code: api.Code{K: 1}})
	learns(t, n, move(42, 40, 1), fetch(1, 40, 0, 2), fetch(2, 40, 1, 2))
	busyIs(t, n, 1)
	b := shard(t, 1, 1)
	hears(t, n, fetched(2, 40, 1, b), fence(2, 40, 1, 3))
	if h := n.Held(); len(h) != 1 || h[0].Blob != 40 || h[0].Index != 1 || !bytes.Equal(h[0].Bytes, b) {
		t.Fatalf("held %+v", h)
	}
	hears(t, n, fetched(1, 40, 0, b))
	hears(t, n, fenced(2, 40, 1), forward(switched(1, 40, 1)))
	busyIs(t, n, 2)
	hears(t, n, fenced(2, 40, 1)) // its switch is wanted once
	busyIs(t, n, 2)
	learns(t, n, switched(1, 40, 1))
	busyIs(t, n, 0)
	if blob, _ := n.State().Blob("a"); blob.Nodes[1] != 4 || n.State().Epoch() != 3 {
		t.Fatalf("blob %+v", blob)
	}
}

// Its asks are sent again, in each phase.
func TestMoveAgain(t *testing.T) {
	n := follower(t, putOn(40, "a", 1, 2))
	learns(t, n, move(42, 40, 1), fetch(1, 40, 0, 1), fetch(2, 40, 1, 1))
	ticks(t, n, 7)
	tick(t, n, fetch(1, 40, 0, 1), fetch(2, 40, 1, 1))
	hears(t, n, fetched(1, 40, 0, shard(t, 1, 0)), fence(2, 40, 1, 2)) // reckoned anew
	if h := n.Held(); len(h) != 1 || !bytes.Equal(h[0].Bytes, shard(t, 1, 1)) {
		t.Fatalf("held %+v", h)
	}
	learns(t, n, api.Cmd{ID: 43, Kind: api.CmdWidth, Code: api.Code{K: 1}})
	ticks(t, n, 7)
	tick(t, n, fence(2, 40, 1, 2)) // the fence stays as it was
	hears(t, n, fenced(2, 40, 1), forward(switched(1, 40, 1)))
	ticks(t, n, 7)
	tick(t, n, forward(switched(1, 40, 1)))
}

// A shard that is there already is not fetched.
func TestMoveOfWhatIsThere(t *testing.T) {
	n := follower(t, putOn(40, "a", 1, 2))
	store := api.Msg{Kind: api.MsgStore, From: 2, To: 4, Blob: 40, Index: 1, Bytes: shard(t, 1, 1)}
	hears(t, n, store, api.Msg{Kind: api.MsgStored, From: 4, To: 2, Blob: 40, Index: 1, OK: true})
	learns(t, n, move(42, 40, 1), fence(2, 40, 1, 2))
	hears(t, n, fenced(2, 40, 1), forward(switched(1, 40, 1)))
}

// Nor one that is there, but fenced, whatever the fence; it is refused, as
// long as the epoch is below that.
func TestMoveBehindFence(t *testing.T) {
	n := follower(t, putOn(40, "a", 1, 2))
	store := api.Msg{Kind: api.MsgStore, From: 2, To: 4, Blob: 40, Index: 1, Bytes: shard(t, 1, 1)}
	hears(t, n, store, api.Msg{Kind: api.MsgStored, From: 4, To: 2, Blob: 40, Index: 1, OK: true})
	hears(t, n, api.Msg{Kind: api.MsgFence, From: 2, To: 4, Blob: 40, Index: 1, Epoch: 2}, api.Msg{Kind: api.MsgFenced, From: 4, To: 2, Blob: 40, Index: 1, OK: true})
	learns(t, n, move(42, 40, 1))
	learns(t, n, api.Cmd{ID: 43, Kind: api.CmdWidth, Code: api.Code{K: 1}}, fence(2, 40, 1, 3))
}

// Bytes of another length that are there are not the shard: it is fetched, and
// can't be stored.
func TestMoveOntoAnother(t *testing.T) {
	n := follower(t, putOn(40, "a", 1, 2))
	store := api.Msg{Kind: api.MsgStore, From: 2, To: 4, Blob: 40, Index: 1, Bytes: []byte("other")}
	hears(t, n, store, api.Msg{Kind: api.MsgStored, From: 4, To: 2, Blob: 40, Index: 1, OK: true})
	learns(t, n, move(42, 40, 1), fetch(1, 40, 0, 1), fetch(2, 40, 1, 1))
	hears(t, n, fetched(2, 40, 1, shard(t, 1, 1)))
	ticks(t, n, 8)
	busyIs(t, n, 1)
}

// The shards of a node that failed are moved without it.
func TestMoveFromFailed(t *testing.T) {
	n := follower(t, putOn(40, "a", 1, 2), api.Cmd{ID: 41, Kind: api.CmdRetire, Node: 0}, api.Cmd{ID: 42, Kind: api.CmdRetire, Node: 3})
	learns(t, n, api.Cmd{ID: 43, Kind: api.CmdFail, Node: 2}, fetch(1, 40, 0, 4), fetch(2, 40, 1, 4))
	hears(t, n, fetched(1, 40, 0, shard(t, 1, 0)), fence(2, 40, 1, 5), forward(switched(1, 40, 1)))
	learns(t, n, switched(1, 40, 1))
	busyIs(t, n, 0)
}

// One that fails while it shall be fenced is passed by then.
func TestMoveFromOneThatFails(t *testing.T) {
	n := follower(t, putOn(40, "a", 1, 2))
	learns(t, n, move(42, 40, 1), fetch(1, 40, 0, 1), fetch(2, 40, 1, 1))
	hears(t, n, fetched(2, 40, 1, shard(t, 1, 1)), fence(2, 40, 1, 2))
	learns(t, n, api.Cmd{ID: 43, Kind: api.CmdFail, Node: 1})
	learns(t, n, api.Cmd{ID: 44, Kind: api.CmdFail, Node: 2}, forward(switched(1, 40, 1)))
}

// Two shards move at one time, the next one when one of them is done, or gone.
func TestMovers(t *testing.T) {
	n := follower(t, putOn(40, "a", 1, 2), putOn(41, "b", 2), putOn(42, "c", 3), putOn(43, "d", 3))
	learns(t, n, move(51, 40, 0), fetch(1, 40, 0, 1), fetch(2, 40, 1, 1))
	learns(t, n, move(52, 41, 0), fetch(2, 41, 0, 1))
	learns(t, n, move(53, 42, 0))
	learns(t, n, move(54, 43, 0))
	busyIs(t, n, 4)
	ticks(t, n, 7)
	tick(t, n, fetch(1, 40, 0, 1), fetch(2, 40, 1, 1), fetch(2, 41, 0, 1))
	hears(t, n, fetched(2, 41, 0, shard(t, 0, 0)), fence(2, 41, 0, 2))
	hears(t, n, fetched(3, 42, 0, shard(t, 0, 0)))
	learns(t, n, api.Cmd{ID: 60, Kind: api.CmdDelete, Key: "a"}, fetch(3, 42, 0, 1))
	hears(t, n, fenced(2, 41, 0), forward(switched(1, 41, 0)))
	learns(t, n, switched(1, 41, 0), fetch(3, 43, 0, 2))
	busyIs(t, n, 2)
	ticks(t, n, 7)
	tick(t, n, fetch(3, 42, 0, 2), fetch(3, 43, 0, 2))
}

// A move to another node is not this one's.
func TestMoveElsewhere(t *testing.T) {
	n := follower(t, putOn(40, "a", 1, 2))
	learns(t, n, api.Cmd{ID: 41, Kind: api.CmdMove, Blob: 40, Index: 0, Node: 3})
	busyIs(t, n, 0)
	ticks(t, n, 8)
}

// recoding is the command that recodes blob 40 by K 1 to nodes; node 4 drives
// it, if the number's rest by 16 is 4.
func recoding(id int, nodes ...int) api.Cmd {
	return api.Cmd{ID: id, Kind: api.CmdRecode, Blob: 40, Code: api.Code{K: 1, M: len(nodes) - 1}, Nodes: nodes}
}

func store(to, blob, index, epoch int, b []byte) api.Msg {
	return api.Msg{Kind: api.MsgStore, From: 4, To: to, Blob: blob, Index: index, Epoch: epoch, Bytes: b}
}

func stored(from, blob, index int) api.Msg {
	return api.Msg{Kind: api.MsgStored, From: from, To: 4, Blob: blob, Index: index, OK: true}
}

// A recode from its beginning to its end, with a shard of its own.
func TestRecode(t *testing.T) {
	n := follower(t, putOn(40, "a", 1, 2))
	learns(t, n, recoding(52, 3, 4, 0), fetch(1, 40, 0, 1), fetch(2, 40, 1, 1)) // 52 % 16 is 4
	busyIs(t, n, 1)
	ticks(t, n, 7)
	tick(t, n, fetch(1, 40, 0, 1), fetch(2, 40, 1, 1))
	hears(t, n, fetched(2, 40, 1, make([]byte, 24))) // another sum: all is forgotten
	hears(t, n, fetched(2, 40, 1, shard(t, 1, 1)), store(3, 52, 0, 1, shard(t, 2, 0)), store(0, 52, 2, 1, shard(t, 2, 2)))
	if h := n.Held(); len(h) != 1 || h[0].Blob != 52 || h[0].Index != 1 || !bytes.Equal(h[0].Bytes, shard(t, 2, 1)) {
		t.Fatalf("held %+v", h)
	}
	hears(t, n, stored(3, 52, 0))
	ticks(t, n, 7)
	tick(t, n, store(0, 52, 2, 1, shard(t, 2, 2)))
	recast := api.Cmd{ID: id(1, 1, 4), Kind: api.CmdRecast, Blob: 40, Other: 52}
	hears(t, n, stored(0, 52, 2), forward(recast))
	busyIs(t, n, 2)
	hears(t, n, stored(0, 52, 2))
	learns(t, n, recast)
	busyIs(t, n, 0)
	if b, ok := n.State().Blob("a"); !ok || b.ID != 52 || b.Code.M != 2 {
		t.Fatalf("blob %+v", b)
	}
}

// A recode that another node drives is not this one's; nor one that is gone.
func TestRecodeElsewhere(t *testing.T) {
	n := follower(t, putOn(40, "a", 1, 2))
	learns(t, n, recoding(53, 3, 4))
	busyIs(t, n, 0)
	ticks(t, n, 8)
	n = follower(t, putOn(40, "a", 1, 2))
	learns(t, n, recoding(52, 3, 4), fetch(1, 40, 0, 1), fetch(2, 40, 1, 1))
	learns(t, n, api.Cmd{ID: 61, Kind: api.CmdRetire, Node: 3})
	busyIs(t, n, 0)
	ticks(t, n, 8)
	hears(t, n, fetched(2, 40, 1, shard(t, 1, 1)))
}

// Two recodes at one time, in their order.
func TestRecodes(t *testing.T) {
	n := follower(t, putOn(40, "a", 1), putOn(41, "b", 2))
	other := recoding(68, 0)
	other.Blob = 41
	learns(t, n, other, fetch(2, 41, 0, 1))
	learns(t, n, recoding(52, 3), fetch(1, 40, 0, 1))
	busyIs(t, n, 2)
	ticks(t, n, 7)
	tick(t, n, fetch(2, 41, 0, 1), fetch(1, 40, 0, 1))
	hears(t, n, fetched(1, 40, 0, shard(t, 0, 0)), store(3, 52, 0, 1, shard(t, 0, 0)))
	ticks(t, n, 7)
	tick(t, n, fetch(2, 41, 0, 1), store(3, 52, 0, 1, shard(t, 0, 0)))
}

// has stores a shard on node 4, of a put that node 1 makes.
func has(t *testing.T, n *node.Node, blob, index int) {
	t.Helper()
	m := api.Msg{Kind: api.MsgStore, From: 1, To: 4, Blob: blob, Index: index, Bytes: []byte("12345678")}
	hears(t, n, m, api.Msg{Kind: api.MsgStored, From: 4, To: 1, Blob: blob, Index: index, OK: true})
}

// freedAt is the tick, from now on, at which the last shard of a node is
// dropped; 0, if it is not within 200.
func freedAt(n *node.Node) int {
	for i := range 200 {
		if n.Tick(); len(n.Held()) == 0 {
			return i + 1
		}
	}
	return 0
}

// Shards that a node need not have any more are dropped behind all leases.
func TestDue(t *testing.T) {
	for name, x := range map[string]struct {
		put, then api.Cmd
		freed     int
	}{
		"deleted":         {putOn(40, "a", 1, 4), api.Cmd{ID: 50, Kind: api.CmdDelete, Key: "a"}, 83},
		"kept":            {putOn(40, "a", 1, 4), api.Cmd{ID: 50, Kind: api.CmdDelete, Key: "b"}, 0},
		"refused":         {putOn(40, "NO", 1, 4), api.Cmd{}, 83},
		"refused, others": {putOn(40, "NO", 1, 2), api.Cmd{}, 0},
		"another number":  {putOn(41, "NO", 1, 4), api.Cmd{}, 0},
		"retired":         {putOn(40, "a", 1, 4), api.Cmd{ID: 50, Kind: api.CmdRetire, Node: 4}, 0},
		"not put":         {api.Cmd{ID: 40, Kind: api.CmdGet, Key: "NO", Nodes: []int{1, 4}}, api.Cmd{}, 0},
	} {
		n := follower(t)
		has(t, n, 40, 1)
		n.Tick()
		chosen(n, 4, 1, x.put)
		chosen(n, 4, 2, x.then)
		if got := freedAt(n); got != x.freed {
			t.Errorf("%s: freed behind %d ticks, want %d", name, got, x.freed)
		}
	}
}

// A put of a key that is there leaves nothing; one that is heard of twice
// leaves what it put.
func TestDueOfPuts(t *testing.T) {
	n := follower(t)
	has(t, n, 41, 0)
	for i, c := range []api.Cmd{putOn(40, "a", 1, 2), putOn(41, "a", 4, 2)} {
		chosen(n, 4, i+1, c)
	}
	if got := freedAt(n); got != 83 {
		t.Errorf("there: freed behind %d ticks", got)
	}
	n = follower(t)
	has(t, n, 41, 0)
	for i, c := range []api.Cmd{putOn(41, "a", 4, 2), putOn(41, "a", 4, 2)} {
		chosen(n, 4, i+1, c)
	}
	if got := freedAt(n); got != 0 {
		t.Errorf("twice: freed behind %d ticks", got)
	}
}

// What was refused, and then is to be had, is kept.
func TestKeep(t *testing.T) {
	n := follower(t)
	has(t, n, 52, 0)
	chosen(n, 4, 1, putOn(52, "NO", 4))
	ticks(t, n, 8)
	chosen(n, 4, 2, putOn(40, "a", 1))
	chosen(n, 4, 3, api.Cmd{Kind: api.CmdRecode, ID: 52, Blob: 40, Code: api.Code{K: 1}, Nodes: []int{4}})
	if got := freedAt(n); got != 75 { // the number was applied ahead: there is no recode
		t.Fatalf("freed behind %d ticks", got)
	}
	n = follower(t)
	has(t, n, 40, 1)
	c := putOn(40, "NO", 1, 4)
	c.ID = 0
	chosen(n, 4, 1, c) // blob 0, of which there is nothing
	chosen(n, 4, 2, putOn(40, "a", 1, 4))
	if got := freedAt(n); got != 0 {
		t.Fatalf("freed behind %d ticks", got)
	}
}

// What is dropped is gone for ever.
func TestDueIsSynced(t *testing.T) {
	p := newPlate(t, 400)
	n := openOn(t, 0, one, p)
	ticks(t, n, 10)
	n.Ask(api.Ask{ID: 1, Kind: api.AskPut, Key: "a"})
	n.Ask(api.Ask{ID: 2, Kind: api.AskDelete, Key: "a"})
	if got := freedAt(n); got != 83 {
		t.Fatalf("freed behind %d ticks", got)
	}
	if len(p.Dirty()) != 0 {
		t.Fatal("not synced")
	}
	is(t, "Crash", p.Crash(nil, -1, 0), api.OK)
	if n = openOn(t, 0, one, p); len(n.Held()) != 0 {
		t.Fatalf("held %+v", n.Held())
	}
}
