package vote_test

import (
	"fmt"
	"slices"
	"testing"

	"amphora/api"
)

// roomy is a command whose list has room behind its end, which nobody may
// change.
func roomy(seed int) api.Cmd {
	c := cmd(seed)
	c.Nodes = append(slices.Clone(c.Nodes), -1, -2, -3)[:len(c.Nodes)]
	return c
}

// whole is a command's text with all that its list reaches.
func whole(c api.Cmd) string {
	c.Nodes = c.Nodes[:cap(c.Nodes)]
	return fmt.Sprintf("%+v", c)
}

// spoil writes over all that votes reach.
func spoil(votes []api.Vote) {
	votes = votes[:cap(votes)]
	for i, v := range votes {
		nodes := v.Cmd.Nodes[:cap(v.Cmd.Nodes)]
		for k := range nodes {
			nodes[k] = -100
		}
		votes[i] = api.Vote{Slot: -100}
	}
}

// What is handed in is not changed, and may be written over.
func TestCommandsAreNotChangedNorKept(t *testing.T) {
	b, c := fresh(t, 100), roomy(4)
	before := whole(c)
	for _, slot := range []int{1, 2} {
		if ok, e := b.Accept(5, slot, c); !ok || e != api.OK {
			t.Fatalf("Accept: %v, error %d", ok, e)
		}
	}
	b.Accept(4, 1, c)
	b.Accept(0, 1, c)
	spoil(b.Votes(1))
	b.prepare(6, 1, v(1, 5, 4), v(2, 5, 4))
	if whole(c) != before {
		t.Fatal("a command that was handed in is changed")
	}
	spoil([]api.Vote{{Cmd: c}})
	b.has("the argument spoilt", 6, v(1, 5, 4), v(2, 5, 4))
	b.accept(6, 3, 3)
	b.again().has("the argument spoilt, and a crash", 6, v(1, 5, 4), v(2, 5, 4), v(3, 6, 3))
}

// A wrong command is not changed either.
func TestWrongCommandsAreNotChanged(t *testing.T) {
	b, c := fresh(t, 40), roomy(4)
	c.Nodes[0] = api.MaxNodes
	before := whole(c)
	if ok, e := b.Accept(5, 1, c); ok || e != api.ErrArg || whole(c) != before {
		t.Fatalf("a wrong command: %v, error %d, or changed", ok, e)
	}
}

// What was told may be written over, its spare room included.
func TestVotesAreNewMemory(t *testing.T) {
	b := fresh(t, 100)
	want := []api.Vote{v(1, 5, 3), v(2, 5, 4), v(3, 5, 14)}
	for _, w := range want {
		if ok, e := b.Accept(w.Ballot, w.Slot, w.Cmd); !ok || e != api.OK {
			t.Fatalf("Accept: %v, error %d", ok, e)
		}
	}
	for range 2 {
		one, other := b.Votes(1), b.Votes(1)
		_, promised, _ := b.Prepare(6, 1)
		spoil(one)
		if text(other) != text(want) || text(promised) != text(want) {
			t.Fatal("an answer is changed with another one")
		}
		spoil(promised)
		if text(other) != text(want) {
			t.Fatal("an answer is changed with a promise")
		}
		b.has("answers spoilt", 6, want...)
	}
	b.again().has("answers spoilt, and a crash", 6, want...)
}

// Lists of one answer are apart, their spare room too.
func TestVotesAreApart(t *testing.T) {
	b := fresh(t, 100)
	b.accept(5, 1, 3)
	b.accept(5, 2, 4)
	votes := b.Votes(1)
	nodes := votes[0].Cmd.Nodes[:cap(votes[0].Cmd.Nodes)]
	for i := range nodes {
		nodes[i] = -100
	}
	if fmt.Sprint(votes[1]) != fmt.Sprint(v(2, 5, 4)) {
		t.Fatal("two votes share memory")
	}
}

// Answers stay as they were told, whatever becomes of the acceptor.
func TestAnswersAreNotChanged(t *testing.T) {
	b := fresh(t, 100)
	b.accept(5, 1, 3)
	b.accept(5, 2, 4)
	_, promised, _ := b.Prepare(6, 1)
	votes := b.Votes(2)
	b.accept(7, 1, 8)
	b.accept(7, 2, 9)
	b.accept(7, 3, 7)
	if text(promised) != text([]api.Vote{v(1, 5, 3), v(2, 5, 4)}) || text(votes) != text([]api.Vote{v(2, 5, 4)}) {
		t.Fatal("an answer is told otherwise by now")
	}
}
