package lead_test

import (
	"fmt"
	"math"
	"slices"
	"testing"

	"amphora/api"
	"amphora/lead"
)

// most is the greatest ballot, and the greatest slot that is proposed.
const most = api.MaxNumber

// cmd is a command of which each field hangs on the seed.
func cmd(seed int) api.Cmd {
	c := api.Cmd{
		ID: seed, Kind: seed + 2, Key: fmt.Sprint("key", seed), Blob: seed + 3, Other: seed + 4, Index: seed + 5,
		Node: seed + 6, Size: seed + 7, Sum: uint32(seed + 8), Code: api.Code{K: seed + 9, M: seed + 10},
	}
	for i := range 1 + seed%4 {
		c.Nodes = append(c.Nodes, seed+20+i)
	}
	return c
}

// v is a vote for cmd(seed).
func v(slot, ballot, seed int) api.Vote { return api.Vote{Slot: slot, Ballot: ballot, Cmd: cmd(seed)} }

// text is all of a command; lists that are nil or empty are alike in it.
func text(c api.Cmd) string { return fmt.Sprintf("%+v", c) }

// is has a call answer the error.
func is(t *testing.T, name string, e, want api.Errno) {
	t.Helper()
	if e != want {
		t.Fatalf("%s: error %d, want %d", name, e, want)
	}
}

// try is one with a ballot of 17.
func try(t *testing.T, from int) *lead.Try {
	t.Helper()
	x, e := lead.New(17, from)
	is(t, "New", e, api.OK)
	return x
}

// promise has a node's promise be heard.
func promise(t *testing.T, x *lead.Try, node int, votes ...api.Vote) {
	t.Helper()
	is(t, fmt.Sprintf("Promise(%d)", node), x.Promise(node, votes), api.OK)
}

// propose has a command be proposed.
func propose(t *testing.T, x *lead.Try, slot, seed int) {
	t.Helper()
	is(t, fmt.Sprintf("Propose(%d)", slot), x.Propose(slot, cmd(seed)), api.OK)
}

// accepted has a node's acceptance be heard.
func accepted(t *testing.T, x *lead.Try, slot int, nodes ...int) {
	t.Helper()
	for _, node := range nodes {
		is(t, fmt.Sprintf("Accepted(%d, %d)", node, slot), x.Accepted(node, slot), api.OK)
	}
}

// bound has a slot be bound to cmd(seed).
func bound(t *testing.T, x *lead.Try, slot, seed int) {
	t.Helper()
	if c, ok := x.Bound(slot); !ok || text(c) != text(cmd(seed)) {
		t.Fatalf("Bound(%d): command %d, %v, want %d, whole", slot, c.ID, ok, seed)
	}
}

// free has slots not be bound.
func free(t *testing.T, x *lead.Try, slots ...int) {
	t.Helper()
	for _, slot := range slots {
		if c, ok := x.Bound(slot); ok || text(c) != text(api.Cmd{}) {
			t.Fatalf("Bound(%d): command %d, %v", slot, c.ID, ok)
		}
	}
}

// proposed has a slot have cmd(seed).
func proposed(t *testing.T, x *lead.Try, slot, seed int) {
	t.Helper()
	if c, ok := x.Proposed(slot); !ok || text(c) != text(cmd(seed)) {
		t.Fatalf("Proposed(%d): command %d, %v, want %d, whole", slot, c.ID, ok, seed)
	}
}

// none has nothing be proposed at slots.
func none(t *testing.T, x *lead.Try, slots ...int) {
	t.Helper()
	for _, slot := range slots {
		if c, ok := x.Proposed(slot); ok || text(c) != text(api.Cmd{}) {
			t.Fatalf("Proposed(%d): command %d, %v", slot, c.ID, ok)
		}
		if x.Chosen(slot, []int{0}) || x.Chosen(slot, nil) {
			t.Fatalf("Chosen(%d): nothing is", slot)
		}
		is(t, fmt.Sprintf("Accepted(0, %d)", slot), x.Accepted(0, slot), api.ErrArg)
	}
}

// next has Next and Open answer this.
func next(t *testing.T, x *lead.Try, want int, open ...int) {
	t.Helper()
	if got := x.Next(); got != want {
		t.Fatalf("Next: %d, want %d", got, want)
	}
	if got := x.Open(); !slices.Equal(got, open) {
		t.Fatalf("Open: %v, want %v", got, open)
	}
}

// P12.1, P12.2: the chapter's example.
func TestExample(t *testing.T) {
	x, voters := try(t, 1), []int{0, 1, 2}
	promise(t, x, 0, v(3, 2, 1))
	if x.Leads(voters) {
		t.Fatal("it leads by one promise of three")
	}
	promise(t, x, 1, v(3, 4, 2))
	if !x.Leads(voters) {
		t.Fatal("it does not lead by two promises of three")
	}
	bound(t, x, 3, 2)
}

// P12.1
func TestNew(t *testing.T) {
	edges := []int{1, 2, 17, most - 1, most}
	for _, ballot := range edges {
		for _, from := range edges {
			x, e := lead.New(ballot, from)
			is(t, "New", e, api.OK)
			if x.Ballot() != ballot {
				t.Fatalf("a ballot of %d is %d", ballot, x.Ballot())
			}
			next(t, x, from)
			free(t, x, 0, 1, from, from+1, math.MaxInt)
			none(t, x, -1, 0, 1, from, from+1, math.MaxInt)
			if x.Leads([]int{0, 1, 2}) || x.Leads(nil) {
				t.Fatal("a new try leads")
			}
		}
	}
	for _, wrong := range []int{0, -1, math.MinInt, most + 1, math.MaxInt} {
		for _, n := range append(edges, wrong) {
			if x, e := lead.New(wrong, n); x != nil || e != api.ErrArg {
				t.Errorf("New(%d, %d): error %d", wrong, n, e)
			}
			if x, e := lead.New(n, wrong); x != nil || e != api.ErrArg {
				t.Errorf("New(%d, %d): error %d", n, wrong, e)
			}
		}
	}
}

// wrongNodes is numbers that are none of a node.
func wrongNodes() []int {
	return []int{-1, api.MaxNodes, -2, api.MaxNodes + 1, 255, math.MinInt, math.MaxInt}
}

// P12.1: nodes are 0 to MaxNodes - 1; a promise of no node is none.
func TestPromiseOfNodes(t *testing.T) {
	for node := range api.MaxNodes {
		x := try(t, 1)
		for _, wrong := range wrongNodes() {
			is(t, "Promise of no node", x.Promise(wrong, []api.Vote{v(1, 1, 1)}), api.ErrArg)
			if x.Leads([]int{wrong}) {
				t.Fatalf("%d promised", wrong)
			}
		}
		free(t, x, 1)
		next(t, x, 1)
		promise(t, x, node)
		for other := -1; other <= api.MaxNodes; other++ {
			if x.Leads([]int{other}) != (other == node) {
				t.Fatalf("%d promised: what of %d", node, other)
			}
		}
	}
}

// P12.1: votes count from from on.
func TestVotesFrom(t *testing.T) {
	for _, from := range []int{1, 2, 100, most} {
		x := try(t, from)
		promise(t, x, 3, v(from-1, 9, 1), v(from, 5, 2), v(from+1, 4, 3), v(0, 9, 4), v(-1, 9, 5), v(math.MinInt, 9, 6))
		free(t, x, from-1, from+2, 0, -1, math.MinInt)
		bound(t, x, from, 2)
		bound(t, x, from+1, 3)
		next(t, x, from+2)
	}
	x := try(t, 5)
	promise(t, x, 0, v(4, 9, 1))
	free(t, x, 4, 5)
	next(t, x, 5)
	if !x.Leads([]int{0}) {
		t.Error("a promise without votes that count is none")
	}
}

// P12.1: votes of a node that promised before play no part.
func TestPromiseTwice(t *testing.T) {
	x := try(t, 1)
	promise(t, x, 0, v(3, 2, 1))
	promise(t, x, 0, v(3, 9, 2), v(4, 9, 3))
	bound(t, x, 3, 1)
	free(t, x, 4)
	next(t, x, 4)
	promise(t, x, 1)
	promise(t, x, 1, v(3, 9, 2))
	bound(t, x, 3, 1)
	if x.Leads([]int{0, 1, 2, 3}) {
		t.Error("who promised twice counts twice")
	}
	promise(t, x, 2, v(3, 9, 2))
	bound(t, x, 3, 2)
}

// P12.2: the vote with the greatest ballot binds, the first that came of
// several.
func TestBound(t *testing.T) {
	for name, x := range map[string]struct {
		promises [][]api.Vote
		want     int
	}{
		"one":                      {[][]api.Vote{{v(3, 2, 1)}}, 1},
		"rising":                   {[][]api.Vote{{v(3, 2, 1)}, {v(3, 4, 2)}}, 2},
		"falling":                  {[][]api.Vote{{v(3, 4, 1)}, {v(3, 2, 2)}}, 1},
		"alike":                    {[][]api.Vote{{v(3, 4, 1)}, {v(3, 4, 2)}}, 1},
		"alike, of one node":       {[][]api.Vote{{v(3, 4, 1), v(3, 4, 2)}}, 1},
		"rising, of one node":      {[][]api.Vote{{v(3, 4, 1), v(3, 5, 2)}}, 2},
		"falling, of one node":     {[][]api.Vote{{v(3, 5, 1), v(3, 4, 2)}}, 1},
		"alike behind a lower one": {[][]api.Vote{{v(3, 3, 1)}, {v(3, 4, 2)}, {v(3, 4, 3)}}, 2},
		"others between":           {[][]api.Vote{{v(4, 9, 1), v(3, 4, 2), v(5, 9, 3)}, {v(2, 9, 4)}, {v(3, 4, 5)}}, 2},
		"the greatest":             {[][]api.Vote{{v(3, most-1, 1)}, {v(3, most, 2)}}, 2},
		"beyond the greatest":      {[][]api.Vote{{v(3, most, 1)}, {v(3, math.MaxInt, 2)}}, 2},
		"a ballot of 0":            {[][]api.Vote{{v(3, 0, 1)}}, 1},
		"a ballot of 0, twice":     {[][]api.Vote{{v(3, 0, 1)}, {v(3, 0, 2)}}, 1},
		"a ballot below 0":         {[][]api.Vote{{v(3, -1, 1)}}, 1},
		"the least ballot":         {[][]api.Vote{{v(3, math.MinInt, 1)}, {v(3, math.MinInt, 2)}}, 1},
		"ballots far apart":        {[][]api.Vote{{v(3, math.MinInt, 1)}, {v(3, math.MaxInt, 2)}, {v(3, -1, 3)}}, 2},
		"above the try's own":      {[][]api.Vote{{v(3, 17, 1)}, {v(3, 18, 2)}}, 2},
	} {
		y := try(t, 1)
		for node, votes := range x.promises {
			promise(t, y, node, votes...)
		}
		if c, ok := y.Bound(3); !ok || c.ID != x.want {
			t.Errorf("%s: command %d, %v, want %d", name, c.ID, ok, x.want)
		}
		bound(t, y, 3, x.want)
	}
}

// P12.2: a slot is bound by votes alone, not by what is proposed, and the
// other way round.
func TestBoundIsNotProposed(t *testing.T) {
	x := try(t, 1)
	promise(t, x, 0, v(3, 2, 1))
	none(t, x, 3)
	propose(t, x, 3, 2)
	propose(t, x, 4, 5)
	bound(t, x, 3, 1)
	proposed(t, x, 3, 2)
	free(t, x, 4)
	promise(t, x, 1, v(4, 2, 6))
	proposed(t, x, 4, 5)
	bound(t, x, 4, 6)
	x = try(t, 1)
	promise(t, x, 0, api.Vote{Slot: 1})
	if c, ok := x.Bound(1); !ok || text(c) != text(api.Cmd{}) {
		t.Error("a slot is not bound to a command of noughts")
	}
}

// P12.2
func TestPropose(t *testing.T) {
	for _, from := range []int{1, 2, 100, most} {
		x := try(t, from)
		for _, wrong := range []int{from - 1, 0, -1, math.MinInt, most + 1, math.MaxInt} {
			is(t, "Propose", x.Propose(wrong, cmd(1)), api.ErrArg)
			none(t, x, wrong)
		}
		next(t, x, from)
		propose(t, x, from, 1)
		proposed(t, x, from, 1)
		next(t, x, from+1, from)
		if from < most {
			propose(t, x, most, 2)
			proposed(t, x, most, 2)
			next(t, x, most+1, from, most)
			none(t, x, from+1, most+1)
		}
		is(t, "Propose below from", x.Propose(from-1, cmd(1)), api.ErrArg)
	}
}

// P12.2: the ID decides whether a command is another one.
func TestProposeTwice(t *testing.T) {
	x := try(t, 1)
	propose(t, x, 3, 7)
	for _, id := range []int{6, 8, 0, -7, math.MinInt, math.MaxInt} {
		c := cmd(7)
		c.ID = id
		is(t, "Propose of another ID", x.Propose(3, c), api.ErrThere)
		is(t, "Propose of noughts", x.Propose(3, api.Cmd{ID: id}), api.ErrThere)
		proposed(t, x, 3, 7)
	}
	accepted(t, x, 3, 0, 1)
	propose(t, x, 3, 7)
	is(t, "Propose of this ID, otherwise another one", x.Propose(3, api.Cmd{ID: 7, Key: "other", Nodes: []int{1}}), api.OK)
	proposed(t, x, 3, 7)
	if !x.Chosen(3, []int{0, 1, 2}) {
		t.Error("who accepted is forgotten when it is proposed again")
	}
	propose(t, x, 4, 7)
	propose(t, x, 2, 8)
	next(t, x, 5, 2, 3, 4)
	is(t, "Propose of an ID of 0", x.Propose(9, api.Cmd{}), api.OK)
	is(t, "Propose of an ID of 0, twice", x.Propose(9, api.Cmd{Kind: 1}), api.OK)
	is(t, "Propose behind an ID of 0", x.Propose(9, cmd(1)), api.ErrThere)
	if c, ok := x.Proposed(9); !ok || text(c) != text(api.Cmd{}) {
		t.Error("a command of noughts is not proposed")
	}
}

// P12.2: Next is behind the greatest slot, of votes and of what is proposed.
func TestNext(t *testing.T) {
	x := try(t, 5)
	next(t, x, 5)
	promise(t, x, 0, v(4, 1, 1))
	next(t, x, 5)
	promise(t, x, 1, v(5, 1, 1))
	next(t, x, 6)
	promise(t, x, 2, v(9, 1, 1), v(7, 1, 1))
	next(t, x, 10)
	propose(t, x, 8, 1)
	next(t, x, 10, 8)
	propose(t, x, 12, 1)
	next(t, x, 13, 8, 12)
	is(t, "Propose of another one", x.Propose(12, cmd(2)), api.ErrThere)
	is(t, "Propose too far", x.Propose(most+1, cmd(2)), api.ErrArg)
	next(t, x, 13, 8, 12)
	promise(t, x, 3, v(most, 1, 1))
	next(t, x, most+1, 8, 12)
	promise(t, x, 4, v(math.MaxInt-1, 1, 1))
	next(t, x, math.MaxInt, 8, 12)
	promise(t, x, 5, v(math.MaxInt, 1, 1))
	next(t, x, math.MaxInt, 8, 12)
	bound(t, x, math.MaxInt, 1)
	propose(t, x, most, 1)
	next(t, x, math.MaxInt, 8, 12, most)
	x = try(t, most)
	promise(t, x, 0, v(math.MaxInt, 1, 1))
	next(t, x, math.MaxInt)
}

// P12.3: what is accepted must be proposed, by a node.
func TestAccepted(t *testing.T) {
	x := try(t, 1)
	promise(t, x, 0, v(3, 2, 1))
	for _, slot := range []int{3, 1, 0, -1, math.MinInt, most, math.MaxInt} {
		for _, node := range append(wrongNodes(), 0, 15) {
			is(t, "Accepted where nothing is proposed", x.Accepted(node, slot), api.ErrArg)
		}
		if x.Chosen(slot, []int{0}) {
			t.Errorf("%d is chosen", slot)
		}
	}
	propose(t, x, 3, 1)
	if x.Chosen(3, []int{0}) {
		t.Error("it is chosen with nobody who accepted")
	}
	for _, node := range wrongNodes() {
		is(t, "Accepted by no node", x.Accepted(node, 3), api.ErrArg)
		if x.Chosen(3, []int{node}) {
			t.Errorf("%d accepted", node)
		}
	}
	for node := range api.MaxNodes {
		y := try(t, 1)
		propose(t, y, 3, 1)
		propose(t, y, 4, 1)
		accepted(t, y, 3, node, node)
		for other := -1; other <= api.MaxNodes; other++ {
			if y.Chosen(3, []int{other}) != (other == node) || y.Chosen(4, []int{other}) || y.Leads([]int{other}) {
				t.Fatalf("%d accepted: what of %d", node, other)
			}
		}
	}
}

// P12.3: promises are not acceptances, and slots are apart.
func TestChosen(t *testing.T) {
	x, voters := try(t, 1), []int{0, 1, 2}
	for _, node := range voters {
		promise(t, x, node)
	}
	propose(t, x, 2, 1)
	propose(t, x, 3, 2)
	if x.Chosen(2, voters) || !x.Leads(voters) {
		t.Fatal("it is chosen by promises")
	}
	accepted(t, x, 2, 0)
	accepted(t, x, 3, 1)
	if x.Chosen(2, voters) || x.Chosen(3, voters) {
		t.Fatal("it is chosen by one of three")
	}
	accepted(t, x, 2, 0, 5)
	if x.Chosen(2, voters) {
		t.Fatal("it is chosen by one that is no voter, or that accepted twice")
	}
	accepted(t, x, 2, 2)
	if !x.Chosen(2, voters) || x.Chosen(3, voters) || x.Chosen(4, voters) {
		t.Fatal("just slot 2 is chosen")
	}
	next(t, x, 4, 2, 3)
}

// P12.3: Open is all slots that are proposed, rising, chosen or not.
func TestOpen(t *testing.T) {
	x := try(t, 2)
	promise(t, x, 0, v(3, 1, 1), v(50, 1, 1))
	for _, slot := range []int{9, 300, 2, 4, most, 3} {
		propose(t, x, slot, slot%100)
	}
	accepted(t, x, 4, 0)
	next(t, x, most+1, 2, 3, 4, 9, 300, most)
	is(t, "Propose of another one", x.Propose(4, cmd(1)), api.ErrThere)
	is(t, "Propose ahead of from", x.Propose(1, cmd(1)), api.ErrArg)
	next(t, x, most+1, 2, 3, 4, 9, 300, most)
}

// Tries that no call made.
func TestNil(t *testing.T) {
	for _, x := range []*lead.Try{nil, {}} {
		for _, n := range []int{0, 1, 15} {
			is(t, "Promise", x.Promise(n, []api.Vote{v(1, 1, 1)}), api.ErrNil)
			is(t, "Propose", x.Propose(n+1, cmd(1)), api.ErrNil)
			is(t, "Accepted", x.Accepted(n, n+1), api.ErrNil)
			free(t, x, n)
			if c, ok := x.Proposed(n); ok || text(c) != text(api.Cmd{}) {
				t.Errorf("Proposed(%d): %v", n, ok)
			}
			if x.Leads([]int{n}) || x.Chosen(n, []int{n}) {
				t.Errorf("%d is a majority", n)
			}
		}
		if x.Ballot() != 0 || x.Next() != 0 || len(x.Open()) != 0 || x.Leads(nil) {
			t.Error("a try that no call made tells something")
		}
	}
}
