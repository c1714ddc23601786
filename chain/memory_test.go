package chain_test

import (
	"slices"
	"testing"

	"amphora/api"
	"amphora/chain"
)

// roomy is cmd(seed) with more behind its list's end that nobody may change.
func roomy(seed int) api.Cmd {
	c := cmd(seed)
	c.Nodes = append(slices.Clone(c.Nodes), -1, -2)[:len(c.Nodes)]
	return c
}

// whole is a command's text with all that its list reaches.
func whole(c api.Cmd) string {
	c.Nodes = c.Nodes[:cap(c.Nodes)]
	return text(c)
}

// spoil writes over all that a command reaches.
func spoil(c api.Cmd) {
	nodes := c.Nodes[:cap(c.Nodes)]
	for i := range nodes {
		nodes[i] = -100
	}
}

// spoilAll writes over all that commands reach.
func spoilAll(l []api.Cmd) {
	l = l[:cap(l)]
	for i := range l {
		spoil(l[i])
		l[i] = api.Cmd{ID: -100, Nodes: []int{-100}}
	}
}

// P13.1: a command that was handed in is not changed, and may be written over.
func TestCommandsAreNotChangedNorKept(t *testing.T) {
	c, x := chain.New(), roomy(3)
	before := whole(x)
	is(t, "Learn", c.Learn(1, x), api.OK)
	is(t, "Learn of the same", c.Learn(1, x), api.OK)
	is(t, "Learn elsewhere", c.Learn(2, x), api.OK)
	is(t, "Learn at 0", c.Learn(0, x), api.ErrArg)
	for _, slot := range []int{1, 2} {
		told, _ := c.Get(slot)
		spoil(told)
	}
	spoilAll(c.From(1, 9))
	if whole(x) != before {
		t.Fatal("a command that was handed in is changed")
	}
	spoil(x)
	has(t, c, 1, cmd(3))
	has(t, c, 2, cmd(3))
	is(t, "Learn of what was written over", c.Learn(1, x), api.ErrClash)
	is(t, "Learn of the same", c.Learn(1, cmd(3)), api.OK)
}

// P13.1: so is one that is there already, or that clashes.
func TestOtherCommandsAreNotKept(t *testing.T) {
	c, same, other := chain.New(), roomy(3), roomy(7)
	is(t, "Learn", c.Learn(1, cmd(3)), api.OK)
	is(t, "Learn of the same", c.Learn(1, same), api.OK)
	before := whole(other)
	is(t, "Learn of another one", c.Learn(1, other), api.ErrClash)
	if whole(other) != before {
		t.Fatal("a command that was handed in is changed")
	}
	spoil(same)
	spoil(other)
	has(t, c, 1, cmd(3))
	next(t, c, 2)
}

// P13.1, P13.2: what is told may be written over.
func TestAnswersAreNewMemory(t *testing.T) {
	c := learned(t, 1, 2, 3, 7)
	for range 3 {
		one, _ := c.Get(3)
		two, _ := c.Get(3)
		list, more, part := c.From(1, 9), c.From(1, 9), c.From(2, 1)
		spoil(one)
		spoilAll(list)
		spoilAll(part)
		if text(two) != text(cmd(3)) {
			t.Fatal("two answers of Get share memory")
		}
		for i, x := range more {
			if text(x) != text(cmd(i+1)) {
				t.Fatal("two answers of From share memory")
			}
		}
		spoil(two)
		spoilAll(more)
		there(t, c, 1, 2, 3, 7)
		from(t, c, 1, 9, 1, 2, 3)
		next(t, c, 4)
	}
}

// P13.2: no two lists of one answer share memory.
func TestListsOfOneAnswer(t *testing.T) {
	c, x := chain.New(), cmd(3)
	for slot := 1; slot <= 4; slot++ {
		is(t, "Learn", c.Learn(slot, x), api.OK)
	}
	l := c.From(1, 4)
	spoil(l[1])
	_ = append(l[2].Nodes, -100)
	for _, i := range []int{0, 2, 3} {
		if text(l[i]) != text(cmd(3)) {
			t.Fatalf("commands 2 and %d of an answer share memory", i+1)
		}
	}
}

// Answers stay as they were told, whatever becomes of the chain.
func TestAnswersAreNotChanged(t *testing.T) {
	c := learned(t, 1, 3)
	l := c.From(1, 9)
	x, _ := c.Get(3)
	is(t, "Learn", c.Learn(2, cmd(2)), api.OK)
	is(t, "Learn of another one", c.Learn(3, cmd(9)), api.ErrClash)
	if len(l) != 1 || text(l[0]) != text(cmd(1)) || text(x) != text(cmd(3)) {
		t.Fatal("an answer is told otherwise by now")
	}
}
