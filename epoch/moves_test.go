package epoch_test

import (
	"math"
	"math/big"
	"testing"

	"amphora/api"
	"amphora/epoch"
)

// one is a state of so many nodes with the blob 16, of K 1, M 1, on 0 and 1.
func one(t *testing.T, nodes int) *epoch.State {
	t.Helper()
	s := state(t, nodes)
	puts(t, s, put(16, "a", code(1, 1), 0, 1))
	return s
}

// to is a move of the blob 16.
func to(index, node int) api.Move { return api.Move{Blob: 16, Index: index, Node: node} }

// P15.1: of all that a move asks one thing is not so, and all is so.
func TestMove(t *testing.T) {
	s := one(t, 8)
	does(t, s, retire(5), fail(6), recode(40, 16, code(1, 0), 2))
	refuses(t, s, move(16, 0, 2)) // a recode of this blob
	does(t, s, recast(16, 40))
	puts(t, s, put(17, "b", code(1, 1), 0, 1), put(18, "c", code(1, 1), 0, 1))
	for _, blob := range []int{0, -17, 16, 19, math.MinInt, math.MaxInt} {
		refuses(t, s, move(blob, 0, 2))
	}
	for _, index := range []int{-1, 2, math.MinInt, math.MaxInt} {
		refuses(t, s, move(17, index, 2))
	}
	for _, node := range append(wrongNodes(8), 5, 6, 0, 1) {
		refuses(t, s, move(17, 0, node), move(17, 1, node))
	}
	does(t, s, move(17, 1, 2))
	moves(t, s, api.Move{Blob: 17, Index: 1, Node: 2})
	refuses(t, s, move(17, 1, 3), move(17, 1, 2)) // a move of this shard
	refuses(t, s, move(17, 0, 2))                 // a node that another shard of it goes to
	does(t, s, move(17, 0, 3), move(18, 0, 2), move(40, 0, 0))
	moves(t, s, api.Move{Blob: 17, Index: 1, Node: 2}, api.Move{Blob: 17, Index: 0, Node: 3}, api.Move{Blob: 18, Index: 0, Node: 2}, api.Move{Blob: 40, Index: 0, Node: 0})
	lies(t, s, "b", 0, 1)
	since(t, s, 4)
}

// P15.1: a switch of a move that is there, and of what differs from it.
func TestSwitch(t *testing.T) {
	s := one(t, 5)
	puts(t, s, put(17, "b", code(1, 1), 0, 1))
	refuses(t, s, change(16, 0, 2), change(16, 0, 0), change(16, 1, 1), change(0, 0, 0), api.Cmd{Kind: api.CmdSwitch})
	does(t, s, move(16, 1, 3), move(16, 0, 2), move(17, 0, 4))
	refuses(t, s, change(16, 1, 2), change(16, 0, 3), change(17, 1, 3), change(17, 0, 2), change(18, 0, 2))
	for _, n := range []int{-1, 2, 99, math.MinInt, math.MaxInt} {
		refuses(t, s, change(16, n, 3), change(n, 1, 3))
	}
	for _, n := range append(wrongNodes(5), 0, 1) {
		refuses(t, s, change(16, 1, n))
	}
	does(t, s, change(16, 1, 3))
	since(t, s, 2)
	lies(t, s, "a", 0, 3)
	lies(t, s, "b", 0, 1)
	moves(t, s, to(0, 2), api.Move{Blob: 17, Index: 0, Node: 4})
	refuses(t, s, change(16, 1, 3))
	does(t, s, change(17, 0, 4), change(16, 0, 2))
	lies(t, s, "a", 2, 3)
	lies(t, s, "b", 4, 1)
	moves(t, s)
	since(t, s, 4)
}

// P15.1: a blob has a node no second time: not one of its Nodes, not one that
// it was switched from or to, not one of a move that is gone.
func TestHad(t *testing.T) {
	s := one(t, 6)
	does(t, s, move(16, 0, 2), change(16, 0, 2), move(16, 0, 3), change(16, 0, 3))
	lies(t, s, "a", 3, 1)
	refuses(t, s, move(16, 0, 0), move(16, 1, 0), move(16, 0, 2), move(16, 1, 2), move(16, 1, 3), move(16, 0, 1))
	does(t, s, move(16, 1, 4), retire(4), admit(4))
	moves(t, s)
	refuses(t, s, move(16, 1, 4), move(16, 0, 4))
	does(t, s, retire(0), admit(0)) // who comes back is no other one
	refuses(t, s, move(16, 0, 0), move(16, 1, 0))
	puts(t, s, put(17, "b", code(1, 0), 5)) // what one blob had another one did not
	does(t, s, move(17, 0, 4), move(16, 0, 5))
}

// P15.1: behind a recast a blob had just the Nodes of it.
func TestHadBehindRecast(t *testing.T) {
	s := one(t, 7)
	does(t, s, move(16, 0, 2), change(16, 0, 2), move(16, 1, 3), retire(3), admit(3))
	refuses(t, s, move(16, 0, 0), move(16, 0, 3))
	does(t, s, recode(40, 16, code(1, 1), 5, 6), recast(16, 40))
	refuses(t, s, move(40, 0, 5), move(40, 0, 6), move(40, 1, 5), move(40, 1, 6))
	does(t, s, move(40, 0, 0), change(40, 0, 0), move(40, 0, 3), change(40, 0, 3))
	refuses(t, s, move(40, 1, 0), move(40, 1, 3), move(40, 0, 5))
	does(t, s, move(40, 1, 2), change(40, 1, 2), recode(41, 40, code(2, 1), 3, 5, 0), recast(40, 41))
	lies(t, s, "a", 3, 5, 0)
	refuses(t, s, move(41, 0, 0), move(41, 1, 3), move(41, 2, 5))
	does(t, s, move(41, 2, 6), move(41, 1, 2))
}

// P15.1: nodes of a recode that never came to be are none that a blob had.
func TestHadBesideRecode(t *testing.T) {
	s := one(t, 6)
	does(t, s, recode(36, 16, code(1, 1), 2, 3), fail(4)) // which drives it
	recodes(t, s)
	does(t, s, move(16, 0, 2), move(16, 1, 3))
}

// P15.1: of all that a recode asks one thing is not so, and all is so.
func TestRecode(t *testing.T) {
	s := one(t, 8)
	does(t, s, retire(5), fail(6))
	puts(t, s, put(17, "b", code(1, 1), 0, 1), put(18, "c", code(1, 0), 0))
	right := recode(50, 16, code(2, 1), 3, 0, 7)
	for i, x := range wrongPuts(right, 5, 6, 8) {
		if x.Key == right.Key && x.Size == right.Size && text(x) != text(right) { // neither of these is asked for
			refuses(t, s, numbered(x, 100+i))
		}
	}
	for i, blob := range []int{0, -16, 15, 50, math.MinInt, math.MaxInt} {
		refuses(t, s, with(right, func(c *api.Cmd) { c.ID, c.Blob = 1000+i, blob }))
	}
	does(t, s, right)
	if l := s.Recodes(); text(l) != text([]api.Recode{{Blob: 16, Other: 50, Code: code(2, 1), Nodes: []int{3, 0, 7}}}) {
		t.Fatalf("Recodes: %s", text(l))
	}
	lies(t, s, "a", 0, 1)
	refuses(t, s, recode(51, 16, code(1, 0), 2), move(16, 0, 2)) // it has a recode
	does(t, s, move(17, 1, 2))
	refuses(t, s, recode(52, 17, code(1, 0), 3)) // it has a move
	does(t, s, change(17, 1, 2), recode(53, 17, code(1, 0), 3), recode(54, 18, code(1, 0), 0))
	recodes(t, s, 16, 17, 18)
	since(t, s, 4)
}

// P15.1: a recode may ask for any Size, Sum, Key, Other, Index and Node: none
// is asked for.
func TestRecodeOfOtherFields(t *testing.T) {
	s := one(t, 4)
	does(t, s, api.Cmd{ID: 50, Kind: api.CmdRecode, Key: "?", Blob: 16, Other: -1, Index: -1, Node: 99, Size: -1, Sum: 5, Code: code(1, 0), Nodes: []int{2}})
	if l := s.Recodes(); text(l) != text([]api.Recode{{Blob: 16, Other: 50, Code: code(1, 0), Nodes: []int{2}}}) {
		t.Fatalf("Recodes: %s", text(l))
	}
}

// P15.1: a recast of a recode that is there, and of what differs from it.
func TestRecast(t *testing.T) {
	s := one(t, 6)
	puts(t, s, put(17, "b", code(1, 1), 0, 1))
	refuses(t, s, recast(16, 16), recast(16, 0), recast(0, 0), api.Cmd{Kind: api.CmdRecast})
	does(t, s, recode(40, 16, code(2, 1), 4, 2, 5), recode(41, 17, code(1, 0), 3))
	for _, n := range []int{math.MinInt, -1, 0, 16, 17, 39, 41, math.MaxInt} {
		refuses(t, s, recast(16, n))
	}
	for _, n := range []int{math.MinInt, -1, 0, 40, 41, 17, 18, math.MaxInt} {
		refuses(t, s, recast(n, 40))
	}
	does(t, s, recast(16, 40))
	since(t, s, 2)
	recodes(t, s, 17)
	want := text(api.Blob{ID: 40, Size: 3, Sum: 77, Code: code(2, 1), Nodes: []int{4, 2, 5}})
	if b, ok := s.Blob("a"); !ok || text(b) != want {
		t.Fatalf("Blob(a): %s, %v, want %s", text(b), ok, want)
	}
	refuses(t, s, recast(16, 40), recast(40, 40), move(16, 0, 1), recode(42, 16, code(1, 0), 3))
	does(t, s, recode(43, 40, code(1, 0), 4), recast(40, 43), recast(17, 41))
	lies(t, s, "a", 4)
	lies(t, s, "b", 3)
	are(t, "Keys", s.Keys(), "a", "b")
	recodes(t, s)
}

// P15.2: what a node shall have: shards that lie there, that are to be moved
// there, and those of recodes; rising.
func TestMine(t *testing.T) {
	s := state(t, 6)
	puts(t, s, put(90, "a", code(2, 2), 0, 1, 2, 3), put(20, "b", code(1, 1), 2, 0), put(30, "c", code(1, 0), 2), put(25, "d", code(1, 1), 0, 1))
	does(t, s, move(90, 3, 4), move(20, 1, 4), move(25, 0, 2), recode(24, 30, code(1, 2), 4, 5, 2))
	for node, want := range [][][2]int{
		{{20, 1}, {25, 0}, {90, 0}},
		{{25, 1}, {90, 1}},
		{{20, 0}, {24, 2}, {25, 0}, {30, 0}, {90, 2}},
		{{90, 3}},
		{{20, 1}, {24, 0}, {90, 3}},
		{{24, 1}},
	} {
		are(t, "Mine", s.Mine(node), want...)
	}
	for _, node := range wrongNodes(6) {
		are(t, "Mine", s.Mine(node))
	}
	does(t, s, change(90, 3, 4), recast(30, 24), remove("b"))
	for node, want := range [][][2]int{
		{{25, 0}, {90, 0}},
		{{25, 1}, {90, 1}},
		{{24, 2}, {25, 0}, {90, 2}},
		nil,
		{{24, 0}, {90, 3}},
		{{24, 1}},
	} {
		are(t, "Mine", s.Mine(node), want...)
	}
}

// Behind each command: keys rising, then shards, the spare one by the number
// and the index.
func TestMovesComeByThemselves(t *testing.T) {
	for _, leave := range []func(int) api.Cmd{retire, fail} {
		s := state(t, 6)
		puts(t, s, put(31, "c", code(2, 1), 1, 5, 0), put(32, "a", code(1, 1), 0, 1), put(33, "b", code(1, 0), 2), put(34, "d", code(1, 0), 1))
		does(t, s, leave(1))
		// Of the members 0, 2, 3, 4, 5: place 33 % 5, 31 % 5, 34 % 5 and on, to
		// one that the blob never had.
		moves(t, s, api.Move{Blob: 32, Index: 1, Node: 4}, api.Move{Blob: 31, Index: 0, Node: 2}, api.Move{Blob: 34, Index: 0, Node: 5})
		since(t, s, 2)
		lies(t, s, "a", 0, 1)
		does(t, s, leave(0))
		// Of 2, 3, 4, 5: place 32 % 4 for (32, 0), and 33 % 4 for (31, 2).
		moves(t, s, api.Move{Blob: 32, Index: 1, Node: 4}, api.Move{Blob: 31, Index: 0, Node: 2}, api.Move{Blob: 34, Index: 0, Node: 5},
			api.Move{Blob: 32, Index: 0, Node: 2}, api.Move{Blob: 31, Index: 2, Node: 3})
		idle(t, s, api.OutDone, api.Cmd{}) // what has a move gets no other one
		refuses(t, s, retire(1), move(31, 0, 4))
		idle(t, s, api.OutDone, api.Cmd{ID: 60})
		idle(t, s, api.OutTwice, api.Cmd{ID: 60})
	}
}

// P15.1: a move to a node that leaves is gone, and another one comes at once,
// as the last one.
func TestMovesComeAnew(t *testing.T) {
	for _, leave := range []func(int) api.Cmd{retire, fail} {
		s := one(t, 5)
		puts(t, s, put(18, "b", code(1, 0), 1))
		does(t, s, fail(1))
		moves(t, s, to(1, 2), api.Move{Blob: 18, Index: 0, Node: 3}) // places 17 % 4, 18 % 4 of 0, 2, 3, 4
		does(t, s, leave(2))
		moves(t, s, api.Move{Blob: 18, Index: 0, Node: 3}, to(1, 4)) // place 17 % 3 of 0, 3, 4
		does(t, s, leave(4))
		moves(t, s, api.Move{Blob: 18, Index: 0, Node: 3}, to(1, 3))
		does(t, s, leave(3)) // 16 had them all
		moves(t, s, api.Move{Blob: 18, Index: 0, Node: 0})
		refuses(t, s, change(16, 1, 3))
	}
}

// P15.1: without a spare member there is no move, till one comes.
func TestNoSpare(t *testing.T) {
	s := one(t, 5)
	does(t, s, retire(4), retire(3), retire(2), fail(1))
	moves(t, s)
	idle(t, s, api.OutDone, api.Cmd{}, api.Cmd{})
	refuses(t, s, retire(2), api.Cmd{Kind: 99}, move(16, 1, 0))
	does(t, s, voters(0), width(code(1, 0)))
	moves(t, s)
	does(t, s, admit(3))
	moves(t, s, to(1, 3))
	does(t, s, admit(2), admit(4)) // which do not call it off
	moves(t, s, to(1, 3))
	does(t, s, change(16, 1, 3))
	moves(t, s)
	lies(t, s, "a", 0, 3)
}

// P15.1: who comes back takes no shard of a blob that had it, but those that
// lie there need no move any more.
func TestBackAgain(t *testing.T) {
	s := one(t, 2)
	does(t, s, retire(1))
	moves(t, s)
	does(t, s, retire(0))
	moves(t, s)
	does(t, s, admit(0))
	moves(t, s) // shard 1 still lies on no member, but 0 is one of its blob's
	does(t, s, admit(1))
	moves(t, s)
	lies(t, s, "a", 0, 1)
}

// P15.1: a move that came by itself stays when the old node comes back.
func TestOldNodeComesBack(t *testing.T) {
	s := one(t, 4)
	does(t, s, retire(1))
	moves(t, s, to(1, 3))
	does(t, s, admit(1))
	moves(t, s, to(1, 3))
	does(t, s, change(16, 1, 3))
	lies(t, s, "a", 0, 3)
	does(t, s, retire(1))
	moves(t, s)
}

// P15.1: of two shards without a home the first one takes the only spare.
func TestOneSpare(t *testing.T) {
	s := one(t, 3)
	does(t, s, retire(2), fail(1), fail(0))
	moves(t, s)
	does(t, s, admit(2))
	moves(t, s, to(0, 2))
	does(t, s, change(16, 0, 2))
	moves(t, s)
	lies(t, s, "a", 2, 1)
}

// P15.1: a blob with a recode gets no move, till the recode is gone.
func TestMovesWaitForRecodes(t *testing.T) {
	s := one(t, 6)
	puts(t, s, put(17, "b", code(1, 0), 1))
	does(t, s, recode(36, 16, code(1, 0), 3), fail(1))
	moves(t, s, api.Move{Blob: 17, Index: 0, Node: 3}) // place 17 % 5 of 0, 2, 3, 4, 5
	recodes(t, s, 16)
	c := s.Copy()
	does(t, s, fail(4)) // which drives the recode
	recodes(t, s)
	moves(t, s, api.Move{Blob: 17, Index: 0, Node: 3}, to(1, 2)) // place 17 % 4 of 0, 2, 3, 5
	does(t, c, retire(3))                                        // which it is on
	recodes(t, c)
	moves(t, c, to(1, 2), api.Move{Blob: 17, Index: 0, Node: 2}) // place 17 % 4 of 0, 2, 4, 5, for both
	s = one(t, 6)
	does(t, s, recode(36, 16, code(1, 0), 3), fail(1), recast(16, 36))
	moves(t, s)
	lies(t, s, "a", 3)
}

// P15.1: a blob that is gone is not moved.
func TestGoneIsNotMoved(t *testing.T) {
	s := one(t, 4)
	puts(t, s, put(17, "b", code(1, 0), 1))
	does(t, s, remove("a"), fail(1))
	moves(t, s, api.Move{Blob: 17, Index: 0, Node: 3}) // place 17 % 3 of 0, 2, 3
	does(t, s, remove("b"), fail(3))
	moves(t, s)
}

// P15.1: the seed is the number and the index together, also beyond the
// greatest int.
func TestSeeds(t *testing.T) {
	for _, id := range []int{1, 2, 3, 4, 5, 1 << 40, api.MaxNumber, math.MaxInt - 1, math.MaxInt} {
		for index := range 3 {
			s := state(t, 10)
			puts(t, s, put(id, "a", code(2, 1), 0, 1, 2))
			does(t, s, fail(index))
			sum := new(big.Int).Add(big.NewInt(int64(id)), big.NewInt(int64(index)))
			place := int(sum.Mod(sum, big.NewInt(9)).Int64())
			members := s.Members()
			for members[place] < 3 {
				place = (place + 1) % 9
			}
			moves(t, s, api.Move{Blob: id, Index: index, Node: members[place]})
		}
	}
}

// P15.1: recodes and moves are told in the order in which they came, with
// others taken out in between.
func TestOrder(t *testing.T) {
	s := state(t, 4)
	var wantMoves []api.Move
	var wantRecodes []int
	for i := range 40 {
		id := 100 + i*7%40
		key := string(rune('a'+i%20)) + string(rune('a'+i/20))
		puts(t, s, put(id, key, code(1, 0), i%2))
		if i%3 == 0 {
			does(t, s, recode(1000+i, id, code(1, 0), 2))
			wantRecodes = append(wantRecodes, id)
		} else {
			does(t, s, move(id, 0, 2))
			wantMoves = append(wantMoves, api.Move{Blob: id, Index: 0, Node: 2})
		}
		if i%5 == 4 {
			m := wantMoves[len(wantMoves)/2]
			does(t, s, change(m.Blob, 0, 2))
			wantMoves = append(wantMoves[:len(wantMoves)/2:len(wantMoves)/2], wantMoves[len(wantMoves)/2+1:]...)
		}
	}
	moves(t, s, wantMoves...)
	recodes(t, s, wantRecodes...)
}
