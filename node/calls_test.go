package node_test

import (
	"encoding/binary"
	"fmt"
	"slices"
	"testing"

	"amphora/api"
	"amphora/frame"
	"amphora/node"
	"amphora/place"
	"amphora/plate"
	"amphora/stripe"
)

// follows is a node that takes another one for the leader, with ballot 7.
func follows(t *testing.T, n *node.Node, self, leader int) {
	t.Helper()
	hears(t, n, api.Msg{Kind: api.MsgBeat, From: leader, To: self, Ballot: 7, Slot: 1})
}

// chosen has a node learn what a slot has, and answer so.
func chosen(n *node.Node, self, slot int, c api.Cmd) ([]api.Msg, []api.Told, api.Errno) {
	return n.On(api.Msg{Kind: api.MsgChosen, From: 0, To: self, Slot: slot, Cmd: c})
}

// A put from its beginning to its end, at a node that does not lead.
func TestPut(t *testing.T) {
	n := open(t, 1, three)
	follows(t, n, 1, 2)
	first := id(1, 1, 1)
	nodes, _ := place.Choose([]int{0, 1, 2}, first, 2)
	shards, _ := stripe.Cut(three.Code, whole(20))
	var stores []api.Msg
	for i, to := range nodes {
		if to != 1 {
			stores = append(stores, api.Msg{Kind: api.MsgStore, From: 1, To: to, Blob: first, Index: i, Epoch: 1, Bytes: shards[i]})
		}
	}
	out, told, e := n.Ask(api.Ask{ID: 6, Kind: api.AskPut, Key: "a", Bytes: whole(20)})
	sends(t, out, told, e, stores...)
	if mine := slices.Contains(nodes, 1); mine != (len(n.Held()) == 1) {
		t.Fatalf("held %v", n.Held())
	}
	busyIs(t, n, 1)
	c := api.Cmd{ID: first, Kind: api.CmdPut, Key: "a", Size: 20, Sum: frame.Sum(whole(20)), Code: three.Code, Nodes: nodes}
	for i, m := range stores {
		answer := api.Msg{Kind: api.MsgStored, From: m.To, To: 1, Blob: first, Index: m.Index, OK: true}
		if i < len(stores)-1 {
			hears(t, n, answer)
		} else {
			hears(t, n, answer, api.Msg{Kind: api.MsgForward, From: 1, To: 2, Cmd: c})
		}
	}
	busyIs(t, n, 2)
	out, told, e = chosen(n, 1, 1, c)
	says(t, out, told, e, api.Told{ID: 6, Says: api.SaysOK})
	busyIs(t, n, 0)
	if b, ok := n.State().Blob("a"); !ok || b.ID != first {
		t.Fatalf("blob %+v", b)
	}
}

// A store that is refused is the end of a put; its command is never wanted.
func TestPutThatIsRefused(t *testing.T) {
	n := open(t, 1, three)
	follows(t, n, 1, 2)
	n.Ask(api.Ask{ID: 6, Kind: api.AskPut, Key: "a", Bytes: whole(20)})
	first := id(1, 1, 1)
	nodes, _ := place.Choose([]int{0, 1, 2}, first, 2)
	i := slices.IndexFunc(nodes, func(n int) bool { return n != 1 })
	out, told, e := n.On(api.Msg{Kind: api.MsgStored, From: nodes[i], To: 1, Blob: first, Index: i})
	says(t, out, told, e, api.Told{ID: 6, Says: api.SaysNot})
	busyIs(t, n, 0)
}

// A get from its beginning to its end; its asks are of the epoch behind what
// is applied.
func TestGet(t *testing.T) {
	n := open(t, 2, three)
	follows(t, n, 2, 0)
	chosen(n, 2, 1, api.Cmd{ID: 40, Kind: api.CmdPut, Key: "a", Size: 20, Sum: frame.Sum(whole(20)), Code: three.Code, Nodes: []int{1, 0}})
	chosen(n, 2, 2, api.Cmd{ID: 41, Kind: api.CmdWidth, Code: api.Code{K: 1}})
	get := api.Cmd{ID: id(1, 1, 2), Kind: api.CmdGet, Key: "a"}
	out, told, e := n.Ask(api.Ask{ID: 6, Kind: api.AskGet, Key: "a"})
	sends(t, out, told, e, api.Msg{Kind: api.MsgForward, From: 2, To: 0, Cmd: get})
	busyIs(t, n, 2)
	out, told, e = chosen(n, 2, 3, get)
	sends(t, out, told, e,
		api.Msg{Kind: api.MsgFetch, From: 2, To: 1, Blob: 40, Index: 0, Epoch: 2},
		api.Msg{Kind: api.MsgFetch, From: 2, To: 0, Blob: 40, Index: 1, Epoch: 2})
	busyIs(t, n, 1)
	shards, _ := stripe.Cut(three.Code, whole(20))
	out, told, e = n.On(api.Msg{Kind: api.MsgFetched, From: 0, To: 2, Blob: 40, Index: 1, OK: true, Bytes: shards[1]})
	says(t, out, told, e, api.Told{ID: 6, Says: api.SaysOK, Bytes: whole(20)})
	busyIs(t, n, 0)
}

// A get whose lease has ended is not answered with bytes; its asks were sent
// again and again.
func TestLateGet(t *testing.T) {
	for _, late := range []int{39, 40} {
		n := open(t, 2, three)
		chosen(n, 2, 1, api.Cmd{ID: 40, Kind: api.CmdPut, Key: "a", Size: 20, Sum: frame.Sum(whole(20)), Code: three.Code, Nodes: []int{1, 0}})
		ticks(t, n, 3)
		n.Ask(api.Ask{ID: 6, Kind: api.AskGet, Key: "a"})
		chosen(n, 2, 2, api.Cmd{ID: id(1, 1, 2), Kind: api.CmdGet, Key: "a"})
		var asked []int
		for i := range late {
			out, _, _ := n.Tick()
			if slices.ContainsFunc(out, func(m api.Msg) bool { return m.Kind == api.MsgFetch && m.Index == 1 }) {
				asked = append(asked, 3+i+1)
			}
		}
		if !slices.Equal(asked, []int{8, 16, 24, 32, 40}) {
			t.Fatalf("asked at %v", asked)
		}
		shards, _ := stripe.Cut(three.Code, whole(20))
		out, told, e := n.On(api.Msg{Kind: api.MsgFetched, From: 0, To: 2, Blob: 40, Index: 1, OK: true, Bytes: shards[1]})
		if late < 40 {
			says(t, out, told, e, api.Told{ID: 6, Says: api.SaysOK, Bytes: whole(20)})
		} else {
			says(t, out, told, e, api.Told{ID: 6, Says: api.SaysNot})
		}
	}
}

// Ask: what can't be done is told at once.
func TestAskNotSo(t *testing.T) {
	n := open(t, 0, three)
	for i, a := range []api.Ask{
		{Kind: 0, Key: "a"}, {Kind: 4, Key: "a"}, {Kind: api.AskPut}, {Kind: api.AskGet, Key: "A"},
		{Kind: api.AskDelete, Key: "a", Bytes: []byte{1}}, {Kind: api.AskGet, Key: "a", Bytes: []byte{1}},
		{Kind: api.AskPut, Key: "a", Bytes: make([]byte, api.MaxBlob+1)}, {Kind: api.AskPut, Key: "123456789"},
	} {
		a.ID = i - 3
		out, told, e := n.Ask(a)
		says(t, out, told, e, api.Told{ID: i - 3, Says: api.SaysNot})
		busyIs(t, n, 0)
	}
	// Too few members for the code.
	chosen(n, 0, 1, api.Cmd{ID: 1, Kind: api.CmdRetire, Node: 1})
	chosen(n, 0, 2, api.Cmd{ID: 2, Kind: api.CmdRetire, Node: 2})
	out, told, e := n.Ask(api.Ask{ID: 5, Kind: api.AskPut, Key: "a"})
	says(t, out, told, e, api.Told{ID: 5, Says: api.SaysNot})
	// No nodes enough for it at all, or more than there can be.
	chosen(n, 0, 3, api.Cmd{ID: 3, Kind: api.CmdWidth, Code: api.Code{K: 15, M: 1}})
	out, told, e = n.Ask(api.Ask{ID: 5, Kind: api.AskPut, Key: "a"})
	says(t, out, told, e, api.Told{ID: 5, Says: api.SaysNot})
	busyIs(t, n, 0)
	// By a code of one shard it can.
	chosen(n, 0, 4, api.Cmd{ID: 4, Kind: api.CmdWidth, Code: api.Code{K: 1}})
	out, told, e = n.Ask(api.Ask{ID: 5, Kind: api.AskPut, Key: "a"})
	sends(t, out, told, e)
	busyIs(t, n, 2)
}

// Ask: sixteen calls are open, and no more, till one is done.
func TestSixteenCalls(t *testing.T) {
	n := open(t, 1, three)
	ticks(t, n, 3)
	for i := range 16 {
		out, told, e := n.Ask(api.Ask{ID: i, Kind: api.AskGet, Key: "a"})
		sends(t, out, told, e)
		busyIs(t, n, 2*i+2)
	}
	for range 2 {
		out, told, e := n.Ask(api.Ask{ID: 77, Kind: api.AskGet, Key: "a"})
		says(t, out, told, e, api.Told{ID: 77, Says: api.SaysNot})
	}
	out, told, e := chosen(n, 1, 1, api.Cmd{ID: id(1, 5, 1), Kind: api.CmdGet, Key: "a"})
	says(t, out, told, e, api.Told{ID: 4, Says: api.SaysMissing})
	out, told, e = n.Ask(api.Ask{ID: 78, Kind: api.AskGet, Key: "a"})
	sends(t, out, told, e)
	out, told, e = n.Ask(api.Ask{ID: 79, Kind: api.AskGet, Key: "a"})
	says(t, out, told, e, api.Told{ID: 79, Says: api.SaysNot})
	var want []api.Told
	for i := range 16 {
		if i != 4 {
			want = append(want, api.Told{ID: i, Says: api.SaysTimeout})
		}
	}
	for range 59 {
		_, told, _ := n.Tick()
		toldIs(t, told)
	}
	_, told, _ = n.Tick()
	toldIs(t, told, append(want, api.Told{ID: 78, Says: api.SaysTimeout})...)
	busyIs(t, n, 16) // what they wanted is wanted still
	for i := range 16 {
		_, told, _ := n.Ask(api.Ask{ID: i, Kind: api.AskGet, Key: "a"})
		toldIs(t, told)
	}
}

// Numbers of commands, till they are used up.
func TestNumbers(t *testing.T) {
	p := newPlate(t, 50)
	for life := 1; life < 3; life++ {
		n := openOn(t, 2, three, p)
		follows(t, n, 2, 0)
		order := func(count int) {
			t.Helper()
			out, told, e := n.Admin(api.Cmd{ID: 5, Kind: api.CmdAdmit, Node: 1})
			sends(t, out, told, e, api.Msg{Kind: api.MsgForward, From: 2, To: 0, Cmd: api.Cmd{ID: id(life, count, 2), Kind: api.CmdAdmit, Node: 1}})
		}
		order(1)
		for _, c := range []api.Cmd{{Kind: api.CmdPut}, {Kind: api.CmdAdmit, Node: 16}, {Kind: api.CmdFail, Node: -1}} {
			if out, told, e := n.Admin(c); len(out)+len(told) != 0 || e != api.ErrArg {
				t.Fatalf("%+v: %v", c, e)
			}
		}
		order(2) // an error took no number
		for i := 3; i < 65535; i++ {
			n.Admin(api.Cmd{Kind: api.CmdAdmit, Node: 1})
		}
		order(65535)
		busyIs(t, n, 65535)
		for kind, want := range map[int]api.Errno{api.CmdAdmit: api.ErrFull, api.CmdRecode: api.ErrFull, api.CmdPut: api.ErrArg} {
			for _, node := range []int{1, 16} {
				out, told, e := n.Admin(api.Cmd{Kind: kind, Node: node})
				if len(out)+len(told) != 0 || e != want {
					t.Fatalf("kind %d: %v", kind, e)
				}
			}
		}
		out, told, e := n.Ask(api.Ask{ID: 8, Kind: api.AskGet, Key: "a"})
		says(t, out, told, e, api.Told{ID: 8, Says: api.SaysNot})
		busyIs(t, n, 65535)
	}
}

// lived is a plate whose head tells so many lives.
func lived(t *testing.T, lives int) *plate.Plate {
	t.Helper()
	p := newPlate(t, 50)
	head := []byte{0x68}
	for _, n := range []int{1, lives, 0, 1} {
		head = binary.BigEndian.AppendUint64(head, uint64(n))
	}
	head = append(head, make([]byte, 59-len(head))...)
	head = append(binary.BigEndian.AppendUint32(head, frame.Sum(head)), 0xa7)
	is(t, "Write", p.Write(1, head), api.OK)
	is(t, "Sync", p.Sync(), api.OK)
	return p
}

// However many lives a node had, its numbers go over the wire.
func TestNumbersOfLives(t *testing.T) {
	for _, life := range []int{1<<38 - 1, 1 << 38, 1<<38 + 5, api.MaxNumber} {
		n := openOn(t, 15, api.Setup{Nodes: 16, Voters: 1, Code: api.Code{K: 1}}, lived(t, life-1))
		if n.Life() != life {
			t.Fatalf("life %d, want %d", n.Life(), life)
		}
		hears(t, n, api.Msg{Kind: api.MsgBeat, From: 0, To: 15, Ballot: 16, Slot: 1})
		out, told, e := n.Admin(api.Cmd{Kind: api.CmdFail, Node: 3})
		sends(t, out, told, e, api.Msg{Kind: api.MsgForward, From: 15, Cmd: api.Cmd{ID: id(life%(1<<38), 1, 15), Kind: api.CmdFail, Node: 3}})
	}
}

// Admin: each kind of command, as it is forwarded.
func TestAdmin(t *testing.T) {
	for kind := -1; kind <= api.CmdWidth+1; kind++ {
		n := open(t, 2, three)
		follows(t, n, 2, 1)
		c := api.Cmd{ID: 99, Kind: kind, Blob: 40, Other: 3, Index: 1, Node: 2, Size: 4, Sum: 5, Code: api.Code{K: 1}, Nodes: []int{0}}
		out, told, e := n.Admin(c)
		switch kind {
		case api.CmdMove, api.CmdRecode, api.CmdAdmit, api.CmdRetire, api.CmdFail, api.CmdVoters, api.CmdWidth:
			c.ID = id(1, 1, 2)
			sends(t, out, told, e, api.Msg{Kind: api.MsgForward, From: 2, To: 1, Cmd: c})
			busyIs(t, n, 1)
		default:
			if len(out)+len(told) != 0 || e != api.ErrArg || n.Busy() != 0 {
				t.Errorf("kind %d: %v", kind, e)
			}
		}
	}
}

// Admin: a key stands for its blob, of moves and recodes; nodes are chosen, if
// a recode has none.
func TestAdminOfKeys(t *testing.T) {
	first := id(1, 1, 2)
	chosenOne, _ := place.Choose([]int{0, 1, 2}, first, 1)
	chosenTwo, _ := place.Choose([]int{0, 1, 2}, first, 2)
	one, two := api.Code{K: 1}, api.Code{K: 1, M: 1}
	for _, x := range []struct {
		name     string
		cmd      api.Cmd
		forwards api.Cmd
	}{
		{"move of a key", api.Cmd{Kind: api.CmdMove, Key: "a", Index: 1, Node: 2}, api.Cmd{Kind: api.CmdMove, Blob: 40, Index: 1, Node: 2}},
		{"move of a key and a blob", api.Cmd{Kind: api.CmdMove, Key: "a", Blob: 7}, api.Cmd{Kind: api.CmdMove, Blob: 40}},
		{"move of no key", api.Cmd{Kind: api.CmdMove, Key: "b", Blob: 7}, api.Cmd{Kind: api.CmdMove}},
		{"move of what is no key", api.Cmd{Kind: api.CmdMove, Key: "NO KEY AT ALL", Blob: 7}, api.Cmd{Kind: api.CmdMove}},
		{"move of a blob", api.Cmd{Kind: api.CmdMove, Blob: 7}, api.Cmd{Kind: api.CmdMove, Blob: 7}},
		{"recode of a key", api.Cmd{Kind: api.CmdRecode, Key: "a", Code: two}, api.Cmd{Kind: api.CmdRecode, Blob: 40, Code: two, Nodes: chosenTwo}},
		{"recode of a blob", api.Cmd{Kind: api.CmdRecode, Blob: 7, Code: one}, api.Cmd{Kind: api.CmdRecode, Blob: 7, Code: one, Nodes: chosenOne}},
		{"recode on nodes", api.Cmd{Kind: api.CmdRecode, Key: "a", Code: one, Nodes: []int{1, 0}}, api.Cmd{Kind: api.CmdRecode, Blob: 40, Code: one, Nodes: []int{1, 0}}},
		{"recode that is too wide", api.Cmd{Kind: api.CmdRecode, Key: "a", Code: api.Code{K: 3, M: 1}}, api.Cmd{Kind: api.CmdRecode, Blob: 40, Code: api.Code{K: 3, M: 1}}},
		{"recode without a code", api.Cmd{Kind: api.CmdRecode, Key: "a"}, api.Cmd{Kind: api.CmdRecode, Blob: 40}},
		{"move with a code alone", api.Cmd{Kind: api.CmdMove, Code: one}, api.Cmd{Kind: api.CmdMove, Code: one}},
		{"retire with a key", api.Cmd{Kind: api.CmdRetire, Key: "a", Node: 1}, api.Cmd{Kind: api.CmdRetire, Key: "a", Node: 1}},
		{"voters", api.Cmd{Kind: api.CmdVoters, Nodes: []int{2, 1}}, api.Cmd{Kind: api.CmdVoters, Nodes: []int{2, 1}}},
	} {
		n := open(t, 2, three)
		chosen(n, 2, 1, api.Cmd{ID: 40, Kind: api.CmdPut, Key: "a", Code: two, Nodes: []int{1, 0}})
		follows(t, n, 2, 1)
		out, told, e := n.Admin(x.cmd)
		x.forwards.ID = first
		if e != api.OK || len(told) != 0 || fmt.Sprintf("%+v", out) != fmt.Sprintf("%+v", []api.Msg{{Kind: api.MsgForward, From: 2, To: 1, Cmd: x.forwards}}) {
			t.Errorf("%s: %+v, %v", x.name, out, e)
		}
	}
	for _, c := range []api.Cmd{
		{Kind: api.CmdRetire, Key: "123456789"}, {Kind: api.CmdMove, Node: 16}, {Kind: api.CmdMove, Index: -1},
		{Kind: api.CmdRecode, Code: api.Code{K: 256}}, {Kind: api.CmdRecode, Code: api.Code{K: 1<<63 - 1, M: -1<<63 + 3}},
		{Kind: api.CmdVoters, Nodes: []int{0, 16}}, {Kind: api.CmdWidth, Code: api.Code{K: 1, M: -1}}, {Kind: api.CmdMove, Blob: api.MaxNumber + 1},
	} {
		n := open(t, 2, three)
		follows(t, n, 2, 1)
		if out, told, e := n.Admin(c); len(out)+len(told) != 0 || e != api.ErrArg || n.Busy() != 0 {
			t.Errorf("%+v: %+v, %v", c, out, e)
		}
	}
}

// A want is sent when there is a leader, and again and again till it is
// applied.
func TestWantAgain(t *testing.T) {
	n := open(t, 1, three)
	ticks(t, n, 2)
	out, told, e := n.Admin(api.Cmd{Kind: api.CmdRetire, Node: 0})
	sends(t, out, told, e) // there is no leader yet
	ticks(t, n, 3)
	follows(t, n, 1, 2)
	out, told, e = n.Admin(api.Cmd{Kind: api.CmdRetire, Node: 2})
	one := api.Cmd{ID: id(1, 1, 1), Kind: api.CmdRetire, Node: 0}
	two := api.Cmd{ID: id(1, 2, 1), Kind: api.CmdRetire, Node: 2}
	forward := func(c api.Cmd) api.Msg { return api.Msg{Kind: api.MsgForward, From: 1, To: 2, Cmd: c} }
	sends(t, out, told, e, forward(two))
	ticks(t, n, 4)
	tick(t, n, forward(one)) // tick 10
	ticks(t, n, 2)
	tick(t, n, forward(two)) // tick 13
	follows(t, n, 1, 2)
	ticks(t, n, 4)
	tick(t, n, forward(one)) // tick 18
	out, told, e = chosen(n, 1, 1, two)
	sends(t, out, told, e)
	busyIs(t, n, 1)
	follows(t, n, 1, 2)
	ticks(t, n, 7)
	tick(t, n, forward(one)) // tick 26
	out, told, e = chosen(n, 1, 2, one)
	sends(t, out, told, e)
	busyIs(t, n, 0)
	follows(t, n, 1, 2)
	ticks(t, n, 13)
}

// Slots that are learned out of order are applied in order.
func TestOutOfOrder(t *testing.T) {
	n := open(t, 1, three)
	n.Ask(api.Ask{ID: 4, Kind: api.AskGet, Key: "a"})
	n.Ask(api.Ask{ID: 5, Kind: api.AskDelete, Key: "a"})
	put := api.Cmd{ID: 40, Kind: api.CmdPut, Key: "a", Size: 3, Sum: frame.Sum(whole(3)), Code: api.Code{K: 1}, Nodes: []int{2}}
	get := api.Cmd{ID: id(1, 1, 1), Kind: api.CmdGet, Key: "a"}
	remove := api.Cmd{ID: id(1, 2, 1), Kind: api.CmdDelete, Key: "a"}
	for slot, c := range map[int]api.Cmd{2: get, 4: remove} {
		out, told, e := chosen(n, 1, slot, c)
		sends(t, out, told, e)
	}
	if n.State().Slot() != 1 {
		t.Fatal("applied ahead of its time")
	}
	out, told, e := chosen(n, 1, 1, put)
	sends(t, out, told, e, api.Msg{Kind: api.MsgFetch, From: 1, To: 2, Blob: 40, Epoch: 1})
	if n.State().Slot() != 3 {
		t.Fatalf("slot %d", n.State().Slot())
	}
	out, told, e = chosen(n, 1, 3, api.Cmd{})
	says(t, out, told, e, api.Told{ID: 5, Says: api.SaysOK})
	if n.State().Slot() != 5 {
		t.Fatalf("slot %d", n.State().Slot())
	}
}
