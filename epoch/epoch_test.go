package epoch_test

import (
	"fmt"
	"math"
	"slices"
	"strings"
	"testing"

	"amphora/api"
	"amphora/epoch"
)

// code is one of K data shards and M more.
func code(k, m int) api.Code { return api.Code{K: k, M: m} }

// everyone is all nodes of so many.
func everyone(count int) []int {
	var l []int
	for n := range count {
		l = append(l, n)
	}
	return l
}

// state is a new one of so many nodes, all of which vote.
func state(t *testing.T, nodes int) *epoch.State {
	t.Helper()
	s, e := epoch.New(api.Setup{Nodes: nodes, Voters: nodes, Code: code(1, 0)})
	if s == nil || e != api.OK {
		t.Fatalf("New of %d nodes: error %d", nodes, e)
	}
	return s
}

// Commands, by what they ask for.

func put(id int, key string, c api.Code, nodes ...int) api.Cmd {
	return api.Cmd{ID: id, Kind: api.CmdPut, Key: key, Size: 3, Sum: 77, Code: c, Nodes: nodes}
}

func get(key string) api.Cmd { return api.Cmd{Kind: api.CmdGet, Key: key} }

func remove(key string) api.Cmd { return api.Cmd{Kind: api.CmdDelete, Key: key} }

func move(blob, index, node int) api.Cmd {
	return api.Cmd{Kind: api.CmdMove, Blob: blob, Index: index, Node: node}
}

func change(blob, index, node int) api.Cmd {
	return api.Cmd{Kind: api.CmdSwitch, Blob: blob, Index: index, Node: node}
}

func recode(id, blob int, c api.Code, nodes ...int) api.Cmd {
	return api.Cmd{ID: id, Kind: api.CmdRecode, Blob: blob, Code: c, Nodes: nodes}
}

func recast(blob, other int) api.Cmd {
	return api.Cmd{Kind: api.CmdRecast, Blob: blob, Other: other}
}

func admit(node int) api.Cmd  { return api.Cmd{Kind: api.CmdAdmit, Node: node} }
func retire(node int) api.Cmd { return api.Cmd{Kind: api.CmdRetire, Node: node} }
func fail(node int) api.Cmd   { return api.Cmd{Kind: api.CmdFail, Node: node} }

func voters(nodes ...int) api.Cmd { return api.Cmd{Kind: api.CmdVoters, Nodes: nodes} }

func width(c api.Code) api.Cmd { return api.Cmd{Kind: api.CmdWidth, Code: c} }

// text is all of a thing; lists that are nil or empty are alike in it.
func text(x any) string { return fmt.Sprintf("%+v", x) }

// apply has a command be applied: it takes a slot, whatever it is.
func apply(t *testing.T, s *epoch.State, c api.Cmd) api.Out {
	t.Helper()
	slot := s.Slot()
	o, e := s.Apply(c)
	if e != api.OK || s.Slot() != slot+1 {
		t.Fatalf("%s: error %d, slot %d behind %d", text(c), e, s.Slot(), slot)
	}
	return o
}

// comes has a command come to an outcome that is empty but for its kind.
func comes(t *testing.T, s *epoch.State, kind int, c api.Cmd) {
	t.Helper()
	if o := apply(t, s, c); text(o) != text(api.Out{Kind: kind}) {
		t.Fatalf("%s: %s, want just %d", text(c), text(o), kind)
	}
}

// does has commands be done, none of which tells a blob.
func does(t *testing.T, s *epoch.State, cmds ...api.Cmd) {
	t.Helper()
	for _, c := range cmds {
		comes(t, s, api.OutDone, c)
	}
}

// puts has blobs be put, and told as they were.
func puts(t *testing.T, s *epoch.State, cmds ...api.Cmd) {
	t.Helper()
	for _, c := range cmds {
		want := api.Out{Kind: api.OutDone, Blob: api.Blob{ID: c.ID, Size: c.Size, Sum: c.Sum, Code: c.Code, Nodes: c.Nodes}}
		if o := apply(t, s, c); text(o) != text(want) {
			t.Fatalf("%s: %s, want %s", text(c), text(o), text(want))
		}
	}
}

// idle has commands come to an outcome, and change nothing that a call tells
// but the slot.
func idle(t *testing.T, s *epoch.State, kind int, cmds ...api.Cmd) {
	t.Helper()
	for _, c := range cmds {
		before := told(s)
		comes(t, s, kind, c)
		if now := told(s); now != before {
			t.Fatalf("%s: it was\n%sand is\n%s", text(c), before, now)
		}
	}
}

// refuses has commands be refused.
func refuses(t *testing.T, s *epoch.State, cmds ...api.Cmd) {
	t.Helper()
	idle(t, s, api.OutRefused, cmds...)
}

// names is texts that tests have for keys, and some that are none.
func names() []string { return []string{"a", "b", "c", "d", "e", "k9", "zzzzzzzz", "", "A"} }

// told is all that a state tells, but for the slot.
func told(s *epoch.State) string {
	var b strings.Builder
	fmt.Fprintln(&b, "epoch", s.Epoch(), "members", s.Members(), "code", s.Code(), "keys", s.Keys())
	fmt.Fprintf(&b, "moves %+v recodes %+v\n", s.Moves(), s.Recodes())
	for n := -1; n <= api.MaxNodes; n++ {
		if mine := s.Mine(n); len(mine) > 0 || s.Failed(n) {
			fmt.Fprintln(&b, "node", n, "failed", s.Failed(n), "mine", mine)
		}
	}
	for slot, last := -1, ""; slot < 80; slot++ {
		if v := fmt.Sprint(s.Voters(slot)); v != last {
			fmt.Fprintln(&b, "voters from", slot, v)
			last = v
		}
	}
	for _, key := range names() {
		if x, ok := s.Blob(key); ok || x.ID != 0 {
			fmt.Fprintf(&b, "key %s: %+v %v\n", key, x, ok)
		}
	}
	for id := -1; id < 100; id++ {
		if x, ok := s.Find(id); ok || x.ID != 0 {
			fmt.Fprintf(&b, "number %d: %+v %v\n", id, x, ok)
		}
	}
	return b.String()
}

// are has lists be alike.
func are[T comparable](t *testing.T, name string, got []T, want ...T) {
	t.Helper()
	if !slices.Equal(got, want) {
		t.Fatalf("%s: %v, want %v", name, got, want)
	}
}

// moves has just these moves be to be done.
func moves(t *testing.T, s *epoch.State, want ...api.Move) {
	t.Helper()
	are(t, "Moves", s.Moves(), want...)
}

// recodes has just the recodes of these blobs be to be done.
func recodes(t *testing.T, s *epoch.State, blobs ...int) {
	t.Helper()
	var got []int
	for _, r := range s.Recodes() {
		got = append(got, r.Blob)
	}
	are(t, "blobs of Recodes", got, blobs...)
}

// lies has a key's blob lie on these nodes.
func lies(t *testing.T, s *epoch.State, key string, nodes ...int) {
	t.Helper()
	b, ok := s.Blob(key)
	if !ok || !slices.Equal(b.Nodes, nodes) {
		t.Fatalf("Blob(%s): %s, %v, want it on %v", key, text(b), ok, nodes)
	}
}

// since has the epoch be this one.
func since(t *testing.T, s *epoch.State, want int) {
	t.Helper()
	if s.Epoch() != want {
		t.Fatalf("Epoch: %d, want %d", s.Epoch(), want)
	}
}

// The chapter's example.
func TestExample(t *testing.T) {
	s := state(t, 3)
	puts(t, s, put(16, "a", code(1, 1), 0, 1))
	does(t, s, fail(1))
	moves(t, s, api.Move{Blob: 16, Index: 1, Node: 2})
}

// P15.1: nodes, voters and codes at their edges.
func TestNew(t *testing.T) {
	for _, x := range []struct {
		nodes, voters int
		code          api.Code
		want          api.Errno
	}{
		{1, 1, code(1, 0), api.OK},
		{3, 1, code(1, 1), api.OK},
		{3, 3, code(2, 1), api.OK},
		{api.MaxNodes, 1, code(1, 0), api.OK},
		{api.MaxNodes, api.MaxNodes, code(api.MaxNodes, 0), api.OK},
		{api.MaxNodes, 5, code(1, api.MaxNodes-1), api.OK},
		{api.MaxNodes, 5, code(10, 6), api.OK},
		{0, 0, code(1, 0), api.ErrArg},
		{0, 1, code(1, 0), api.ErrArg},
		{-1, -1, code(1, 0), api.ErrArg},
		{-1, 1, code(1, 0), api.ErrArg},
		{api.MaxNodes + 1, 1, code(1, 0), api.ErrArg},
		{api.MaxNodes + 1, api.MaxNodes + 1, code(1, 0), api.ErrArg},
		{math.MaxInt, 1, code(1, 0), api.ErrArg},
		{math.MinInt, 1, code(1, 0), api.ErrArg},
		{3, 0, code(1, 0), api.ErrArg},
		{3, -1, code(1, 0), api.ErrArg},
		{3, 4, code(1, 0), api.ErrArg},
		{1, 2, code(1, 0), api.ErrArg},
		{api.MaxNodes, api.MaxNodes + 1, code(1, 0), api.ErrArg},
		{3, math.MaxInt, code(1, 0), api.ErrArg},
		{3, math.MinInt, code(1, 0), api.ErrArg},
		{3, 3, code(0, 0), api.ErrArg},
		{3, 3, code(0, 1), api.ErrArg},
		{3, 3, code(-1, 2), api.ErrArg},
		{3, 3, code(1, -1), api.ErrArg},
		{3, 3, code(3, -1), api.ErrArg},
		{3, 3, code(3, 0), api.OK},
		{3, 3, code(1, 2), api.OK},
		{3, 3, code(4, 0), api.ErrArg},
		{3, 3, code(1, 3), api.ErrArg},
		{3, 3, code(2, 2), api.ErrArg},
		{1, 1, code(1, 1), api.ErrArg},
		{api.MaxNodes, 1, code(api.MaxNodes, 1), api.ErrArg},
		{api.MaxNodes, 1, code(255, 0), api.ErrArg},
		{3, 3, code(math.MaxInt, 1), api.ErrArg},
		{3, 3, code(math.MaxInt, math.MaxInt), api.ErrArg},
		{3, 3, code(math.MinInt, math.MinInt), api.ErrArg},
		{3, 3, code(1, math.MaxInt), api.ErrArg},
		{3, 3, code(1, math.MinInt), api.ErrArg},
	} {
		for _, sectors := range []int{0, -1, 64, math.MaxInt} { // which play no part
			s, e := epoch.New(api.Setup{Nodes: x.nodes, Voters: x.voters, Sectors: sectors, Code: x.code})
			if e != x.want || (s == nil) != (e != api.OK) {
				t.Fatalf("New of %+v: error %d", x, e)
			}
			if e == api.OK {
				first(t, s, x.nodes, x.voters, x.code)
			}
		}
	}
}

// first has a state be one to which nothing was applied.
func first(t *testing.T, s *epoch.State, nodes, voters int, c api.Code) {
	t.Helper()
	since(t, s, 1)
	if s.Slot() != 1 || s.Code() != c {
		t.Fatalf("slot %d, code %v at first, want 1, %v", s.Slot(), s.Code(), c)
	}
	are(t, "Members", s.Members(), everyone(nodes)...)
	for _, slot := range []int{math.MinInt, -1, 0, 1, 2, 5, 1 << 40, math.MaxInt} {
		are(t, "Voters", s.Voters(slot), everyone(voters)...)
	}
	are(t, "Keys", s.Keys())
	moves(t, s)
	recodes(t, s)
	for _, n := range []int{math.MinInt, -1, 0, 1, 15, 16, math.MaxInt} {
		are(t, "Mine", s.Mine(n))
		if x, ok := s.Find(n); ok || text(x) != text(api.Blob{}) || s.Failed(n) {
			t.Fatalf("number %d: %s, %v; it failed: %v", n, text(x), ok, s.Failed(n))
		}
	}
	for _, key := range names() {
		if x, ok := s.Blob(key); ok || text(x) != text(api.Blob{}) {
			t.Fatalf("Blob(%s): %s, %v", key, text(x), ok)
		}
	}
}

// P15.3, and the rule of objects: states that no call made.
func TestNil(t *testing.T) {
	made := state(t, 3)
	for _, s := range []*epoch.State{nil, {}} {
		for range 2 {
			for kind := -1; kind <= api.CmdWidth+1; kind++ {
				c := api.Cmd{ID: 5, Kind: kind, Key: "a", Size: 1, Code: code(1, 0), Nodes: []int{0}}
				if o, e := s.Apply(c); e != api.ErrNil || text(o) != text(api.Out{}) {
					t.Fatalf("Apply of kind %d: %s, error %d", kind, text(o), e)
				}
			}
			if s.Epoch() != 0 || s.Slot() != 0 || s.Code() != code(0, 0) || s.Copy() != nil {
				t.Fatal("a state that no call made tells something")
			}
			if len(s.Members())+len(s.Keys())+len(s.Moves())+len(s.Recodes()) != 0 {
				t.Fatal("a state that no call made tells lists")
			}
			for _, n := range []int{math.MinInt, -1, 0, 1, 5, math.MaxInt} {
				x, ok := s.Find(n)
				if ok || text(x) != text(api.Blob{}) || s.Failed(n) || len(s.Voters(n))+len(s.Mine(n)) != 0 {
					t.Fatalf("a state that no call made tells something of %d", n)
				}
			}
			if x, ok := s.Blob("a"); ok || text(x) != text(api.Blob{}) {
				t.Fatal("a state that no call made has a blob")
			}
			if s.Same(s) || s.Same(nil) || s.Same(&epoch.State{}) || s.Same(made) || made.Same(s) {
				t.Fatal("a state that no call made is the same as another one")
			}
		}
	}
	first(t, made, 3, 3, code(1, 0))
}

// P15.1: each command takes a slot, whatever it is and whatever comes of it.
func TestSlots(t *testing.T) {
	s := state(t, 3)
	cmds := []api.Cmd{
		{}, {}, {ID: 5}, {ID: 5}, {Kind: -1}, {Kind: 99}, put(6, "a", code(1, 0), 1), put(7, "a", code(1, 0), 1),
		get("a"), get("b"), put(8, "", code(1, 0), 1), fail(2), fail(2), remove("a"), remove("a"),
	}
	for i, c := range cmds {
		if s.Slot() != i+1 {
			t.Fatalf("slot %d behind %d commands", s.Slot(), i)
		}
		apply(t, s, c)
	}
}

// P15.1: a command whose number was applied ahead does nothing else, whatever
// became of the one ahead; numbers that are not above 0 are none.
func TestTwice(t *testing.T) {
	s := state(t, 4)
	puts(t, s, put(5, "a", code(1, 1), 0, 1))
	comes(t, s, api.OutThere, put(6, "a", code(1, 1), 0, 1))
	comes(t, s, api.OutRefused, put(7, "A", code(1, 1), 0, 1))
	comes(t, s, api.OutMissing, api.Cmd{ID: 8, Kind: api.CmdGet, Key: "b"})
	comes(t, s, api.OutRefused, api.Cmd{ID: 9, Kind: 99})
	comes(t, s, api.OutRefused, api.Cmd{ID: 10, Kind: -1})
	comes(t, s, api.OutDone, api.Cmd{ID: 11})
	comes(t, s, api.OutDone, api.Cmd{ID: math.MaxInt, Kind: api.CmdNop})
	for _, id := range []int{5, 6, 7, 8, 9, 10, 11, math.MaxInt, 5} {
		for _, c := range []api.Cmd{
			put(0, "b", code(1, 0), 0), get("a"), get("x"), remove("a"), move(5, 0, 2), recode(0, 5, code(1, 0), 3),
			retire(0), fail(1), voters(2), width(code(2, 2)), {}, {Kind: 99}, {Kind: -1},
		} {
			c.ID = id
			idle(t, s, api.OutTwice, c)
		}
	}
	for _, id := range []int{0, -1, -5, math.MinInt} {
		for range 2 {
			idle(t, s, api.OutDone, api.Cmd{ID: id})
			refuses(t, s, api.Cmd{ID: id, Kind: 99})
		}
	}
	does(t, s, api.Cmd{ID: 12, Kind: api.CmdRetire, Node: 0})
	since(t, s, 2)
	idle(t, s, api.OutTwice, api.Cmd{ID: 12, Kind: api.CmdAdmit, Node: 0})
	puts(t, s, put(13, "b", code(1, 0), 1))
}

// P15.1: kinds that are none, whatever else the command has.
func TestNoKind(t *testing.T) {
	s := state(t, 3)
	puts(t, s, put(5, "a", code(1, 1), 0, 1))
	for i, kind := range []int{-1, api.CmdWidth + 1, 14, 99, -12, 1 << 32, 1<<32 + 1, math.MinInt, math.MaxInt} {
		refuses(t, s, api.Cmd{Kind: kind})
		refuses(t, s, api.Cmd{ID: 20 + i, Kind: kind, Key: "b", Blob: 5, Node: 2, Size: 1, Code: code(1, 0), Nodes: []int{2}})
		idle(t, s, api.OutTwice, api.Cmd{ID: 20 + i})
	}
}

// P15.1: a command without anything to do is done, whatever else it has.
func TestNop(t *testing.T) {
	s := state(t, 3)
	puts(t, s, put(5, "a", code(1, 1), 0, 1))
	idle(t, s, api.OutDone, api.Cmd{}, api.Cmd{ID: -3}, api.Cmd{ID: 9, Key: "a", Blob: 5, Index: -1, Node: 99, Size: -1, Code: code(-1, -1), Nodes: []int{-1}})
}

// P15.5: the epoch rises by one with each command that is done and that the
// table marks, and with no other one.
func TestEpochs(t *testing.T) {
	s := state(t, 5)
	for i, x := range []struct {
		cmd  api.Cmd
		more int
	}{
		{put(16, "a", code(1, 1), 0, 1), 0},
		{api.Cmd{}, 0},
		{get("a"), 0},
		{move(16, 0, 2), 0},
		{change(16, 0, 3), 0},
		{change(16, 0, 2), 1},
		{change(16, 0, 2), 0},
		{recode(33, 16, code(2, 0), 3, 4), 0},
		{recast(16, 34), 0},
		{recast(16, 33), 1},
		{recast(16, 33), 0},
		{admit(0), 0},
		{retire(0), 1},
		{retire(0), 0},
		{admit(0), 1},
		{admit(0), 0},
		{fail(0), 1},
		{fail(0), 0},
		{admit(0), 0},
		{retire(1), 1},
		{fail(1), 1},
		{voters(0), 0},
		{voters(2, 3, 4), 1},
		{voters(2, 3, 4), 1},
		{width(code(16, 1)), 0},
		{width(code(2, 1)), 1},
		{width(code(2, 1)), 1},
		{remove("a"), 0},
		{put(17, "b", code(1, 0), 2), 0},
		{put(17, "c", code(1, 0), 2), 0},
		{api.Cmd{Kind: 13}, 0},
	} {
		before := s.Epoch()
		apply(t, s, x.cmd)
		if s.Epoch() != before+x.more {
			t.Fatalf("%d: %s: epoch %d behind %d", i, text(x.cmd), s.Epoch(), before)
		}
	}
}
