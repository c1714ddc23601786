package node_test

import (
	"bytes"
	"slices"
	"testing"

	"amphora/api"
)

// net6 is six nodes, of which three vote, and three shards of each blob.
func net6(t *testing.T) *net {
	t.Helper()
	w := newNet(t, api.Setup{Nodes: 6, Voters: 3, Sectors: 800, Code: api.Code{K: 2, M: 1}})
	w.settle(15)
	return w
}

// asks has a call be made at a node, and settles; what it is told.
func (w *net) asks(i int, kind int, key string, b []byte) (int, []byte) {
	w.t.Helper()
	w.ask(i, api.Ask{Kind: kind, Key: key, Bytes: b})
	w.settle(30)
	return w.told(w.asked)
}

func (w *net) tells(i int, key string, want []byte) {
	w.t.Helper()
	if says, b := w.asks(i, api.AskGet, key, nil); says != api.SaysOK || !bytes.Equal(b, want) {
		w.fail("get of %q at %d: %d, %x", key, i, says, b)
	}
}

func (w *net) puts(i int, key string, b []byte) {
	w.t.Helper()
	if says, _ := w.asks(i, api.AskPut, key, b); says != api.SaysOK {
		w.fail("put of %q at %d: %d", key, i, says)
	}
}

// blob is a key's, as the furthest configuration has it.
func (w *net) blob(key string) api.Blob {
	b, _ := w.states[w.last].Blob(key)
	return b
}

// Example 1 of the whole: three nodes, two of them down: a put is given up.
func TestTwoDown(t *testing.T) {
	w := newNet(t, api.Setup{Nodes: 3, Voters: 3, Sectors: 400, Code: api.Code{K: 1}})
	w.settle(15)
	d := dice(1)
	w.crash(1, &d)
	w.crash(2, &d)
	w.ask(0, api.Ask{Kind: api.AskPut, Key: "a", Bytes: whole(3)})
	w.settle(140) // its clock waits for the others, which still tick
	if says, _ := w.told(1); says != api.SaysTimeout {
		t.Fatalf("told %d", says)
	}
}

// Examples 2 and 3: a disk fails: a get tells the bytes; then its shards are
// reckoned anew on a spare node.
func TestDiskFails(t *testing.T) {
	w := net6(t)
	w.puts(5, "a", whole(20))
	old := w.blob("a")
	lost := old.Nodes[1]
	w.dead(lost)
	at := (lost + 1) % 6
	w.tells(at, "a", whole(20))
	w.admin(at, api.Cmd{Kind: api.CmdFail, Node: lost})
	w.settle(60)
	b := w.blob("a")
	if slices.Contains(b.Nodes, lost) || slices.Equal(b.Nodes, old.Nodes) || w.busy() != 0 {
		t.Fatalf("blob %+v, busy %d", b, w.busy())
	}
	w.nothingLost()
	w.tells(at, "a", whole(20))
}

// Example 4: a move that a crash interrupts goes on when the node is started
// again.
func TestMoveThatIsInterrupted(t *testing.T) {
	for rounds := range 8 {
		w := net6(t)
		w.puts(0, "a", whole(20))
		old := w.blob("a")
		to := slices.IndexFunc([]int{0, 1, 2, 3, 4, 5}, func(n int) bool { return !slices.Contains(old.Nodes, n) })
		w.admin(1, api.Cmd{Kind: api.CmdMove, Key: "a", Index: 2, Node: to})
		w.settle(rounds)
		d := dice(rounds)
		w.crash(to, &d)
		w.settle(10)
		w.start(to)
		w.settle(90)
		if b := w.blob("a"); b.Nodes[2] != to || w.busy() != 0 {
			t.Fatalf("behind %d rounds: blob %+v, busy %d", rounds, b, w.busy())
		}
		w.nothingLost()
		w.tells(to, "a", whole(20))
	}
}

// Example 5: of two puts of one key one is told that it is there.
func TestTwoPuts(t *testing.T) {
	w := net6(t)
	w.ask(1, api.Ask{Kind: api.AskPut, Key: "a", Bytes: whole(20)})
	w.ask(4, api.Ask{Kind: api.AskPut, Key: "a", Bytes: whole(5)})
	w.settle(30)
	one, _ := w.told(1)
	two, _ := w.told(2)
	if one+two != api.SaysOK+api.SaysThere || one == two {
		t.Fatalf("told %d and %d", one, two)
	}
	size := 20
	if two == api.SaysOK {
		size = 5
	}
	w.tells(3, "a", whole(size))
	w.right()
}

// Example 7: a leader that is cut off, and another one that takes over: what
// was chosen stays.
func TestLeaderIsCutOff(t *testing.T) {
	w := net6(t)
	w.puts(3, "a", whole(20))
	leader := slices.IndexFunc(w.nodes, func(n *pair) bool { return n.real.Leads() })
	for range 60 {
		for range len(w.packets) {
			if m := w.packets[0]; m.From == leader || m.To == leader {
				w.packets = w.packets[1:]
			} else {
				w.deliver(0)
			}
		}
		for i := range w.nodes {
			w.tick(i)
		}
	}
	other := slices.IndexFunc(w.nodes, func(n *pair) bool { return n != w.nodes[leader] && n.real.Leads() })
	if other < 0 {
		t.Fatal("nobody took over")
	}
	w.tells(other, "a", whole(20))
	w.tells(leader, "a", whole(20))
	w.right()
}

// Example 8: a blob is recoded from K 2, M 1 to K 4, M 2: a get in between
// tells its bytes.
func TestRecodeOfNet(t *testing.T) {
	w := net6(t)
	w.puts(2, "a", whole(50))
	w.admin(0, api.Cmd{Kind: api.CmdRecode, Key: "a", Code: api.Code{K: 4, M: 2}})
	for i := range 12 {
		w.ask(i%6, api.Ask{Kind: api.AskGet, Key: "a"})
		w.settle(1)
	}
	w.settle(30)
	if b := w.blob("a"); b.Code != (api.Code{K: 4, M: 2}) || len(b.Nodes) != 6 {
		t.Fatalf("blob %+v", b)
	}
	for call := 2; call <= w.asked; call++ {
		if says, b := w.told(call); says != api.SaysOK || !bytes.Equal(b, whole(50)) {
			t.Fatalf("call %d: %d, %x", call, says, b)
		}
	}
	w.settle(200) // the old shards are dropped in the end
	for i := range w.nodes {
		if len(w.heldBy(i)) != 1 {
			t.Fatalf("node %d has %v", i, w.heldBy(i))
		}
	}
	w.nothingLost()
	w.tells(5, "a", whole(50))
}
