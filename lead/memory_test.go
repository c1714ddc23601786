package lead_test

import (
	"fmt"
	"slices"
	"testing"

	"amphora/api"
	"amphora/lead"
)

// room is a list with more behind its end that nobody may change.
func room[T any](l []T, more ...T) []T { return append(slices.Clone(l), more...)[:len(l)] }

// roomy is votes of which all lists have room behind their ends.
func roomy() []api.Vote {
	votes := []api.Vote{v(3, 2, 1), v(1, 9, 9), v(4, 2, 7), v(3, 5, 3)}
	for i := range votes {
		votes[i].Cmd.Nodes = room(votes[i].Cmd.Nodes, -1, -2)
	}
	return room(votes, api.Vote{Slot: 6, Ballot: 1, Cmd: api.Cmd{Nodes: []int{-3}}})
}

// whole is votes' text with all that their lists reach.
func whole(votes []api.Vote) string {
	votes = slices.Clone(votes[:cap(votes)])
	for i, v := range votes {
		votes[i].Cmd.Nodes = v.Cmd.Nodes[:cap(v.Cmd.Nodes)]
	}
	return fmt.Sprintf("%+v", votes)
}

// spoil writes over all that votes reach.
func spoil(votes []api.Vote) {
	votes = votes[:cap(votes)]
	for i := range votes {
		spoilCmd(votes[i].Cmd)
		votes[i] = api.Vote{Slot: -100}
	}
}

// spoilCmd writes over all that a command reaches.
func spoilCmd(c api.Cmd) {
	nodes := c.Nodes[:cap(c.Nodes)]
	for i := range nodes {
		nodes[i] = -100
	}
}

// Votes that were handed in are not changed, and may be written over.
func TestVotesAreNotChangedNorKept(t *testing.T) {
	x, votes := try(t, 2), roomy()
	before := whole(votes)
	is(t, "Promise", x.Promise(0, votes), api.OK)
	is(t, "Promise once more", x.Promise(0, votes), api.OK)
	is(t, "Promise of no node", x.Promise(-1, votes), api.ErrArg)
	is(t, "Promise of another node", x.Promise(1, votes), api.OK)
	for range 2 {
		for _, slot := range []int{3, 4} {
			c, _ := x.Bound(slot)
			spoilCmd(c)
		}
	}
	if whole(votes) != before {
		t.Fatal("votes that were handed in are changed")
	}
	spoil(votes)
	bound(t, x, 3, 3)
	bound(t, x, 4, 7)
	free(t, x, 1, 2, 6)
	next(t, x, 5)
}

// So is a command.
func TestCommandsAreNotChangedNorKept(t *testing.T) {
	x, c := try(t, 1), cmd(7)
	c.Nodes = room(c.Nodes, -1, -2)
	before := whole([]api.Vote{{Cmd: c}})
	is(t, "Propose", x.Propose(3, c), api.OK)
	is(t, "Propose of the same", x.Propose(3, c), api.OK)
	is(t, "Propose elsewhere", x.Propose(4, c), api.OK)
	is(t, "Propose at 0", x.Propose(0, c), api.ErrArg)
	for range 2 {
		for _, slot := range []int{3, 4} {
			told, _ := x.Proposed(slot)
			spoilCmd(told)
		}
	}
	if whole([]api.Vote{{Cmd: c}}) != before {
		t.Fatal("a command that was handed in is changed")
	}
	spoilCmd(c)
	proposed(t, x, 3, 7)
	proposed(t, x, 4, 7)
}

// So are voters, whose order stays too.
func TestVotersAreNotChangedNorKept(t *testing.T) {
	f := agreed(t, 0, 2)
	voters := room([]int{2, 0, 2, 1, 0}, 9, 8)
	whole := slices.Clone(voters[:7])
	if leads, chosen := f.both(voters); !leads || !chosen {
		t.Fatal("two of three are no majority")
	}
	if !slices.Equal(voters[:7], whole) {
		t.Fatalf("voters are %v by now", voters[:7])
	}
	clear(voters[:7])
	if leads, chosen := f.both([]int{0, 1, 2}); !leads || !chosen {
		t.Fatal("voters are kept")
	}
}

// What is told may be written over.
func TestAnswersAreNewMemory(t *testing.T) {
	x := try(t, 1)
	promise(t, x, 0, v(3, 2, 3), v(4, 2, 7))
	propose(t, x, 3, 3)
	propose(t, x, 5, 11)
	for range 2 {
		b, _ := x.Bound(3)
		other, _ := x.Bound(3)
		p, _ := x.Proposed(3)
		spoilCmd(b)
		if text(other) != text(cmd(3)) || text(p) != text(cmd(3)) {
			t.Fatal("two answers share memory")
		}
		spoilCmd(p)
		if text(other) != text(cmd(3)) {
			t.Fatal("what is proposed shares memory with what is bound")
		}
		open := x.Open()
		clear(open[:cap(open)])
		told(t, x)
	}
}

// told has the try have what TestAnswersAreNewMemory gave it.
func told(t *testing.T, x *lead.Try) {
	t.Helper()
	bound(t, x, 3, 3)
	bound(t, x, 4, 7)
	proposed(t, x, 3, 3)
	proposed(t, x, 5, 11)
	next(t, x, 6, 3, 5)
}

// What was bound may be proposed, and both stay apart.
func TestBoundAndProposedAreApart(t *testing.T) {
	x := try(t, 1)
	promise(t, x, 0, v(3, 2, 7))
	c, _ := x.Bound(3)
	is(t, "Propose", x.Propose(3, c), api.OK)
	spoilCmd(c)
	bound(t, x, 3, 7)
	proposed(t, x, 3, 7)
}

// Answers stay as they were told, whatever becomes of the try.
func TestAnswersAreNotChanged(t *testing.T) {
	x := try(t, 1)
	promise(t, x, 0, v(3, 2, 3))
	propose(t, x, 5, 11)
	b, _ := x.Bound(3)
	p, _ := x.Proposed(5)
	open := x.Open()
	promise(t, x, 1, v(3, 9, 4))
	propose(t, x, 2, 7)
	if text(b) != text(cmd(3)) || text(p) != text(cmd(11)) || !slices.Equal(open, []int{5}) {
		t.Fatal("an answer is told otherwise by now")
	}
}
