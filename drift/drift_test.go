package drift_test

import (
	"fmt"
	"math"
	"testing"

	"amphora/api"
	"amphora/drift"
)

// clocks is those of so many nodes, where there may be no error.
func clocks(t *testing.T, nodes int) *drift.Clocks {
	t.Helper()
	c, e := drift.New(nodes)
	if e != api.OK || c == nil {
		t.Fatalf("New(%d): error %d", nodes, e)
	}
	return c
}

// tick has a clock tick, or not.
func tick(t *testing.T, c *drift.Clocks, node int, want api.Errno) {
	t.Helper()
	if may := c.May(node); may != (want == api.OK) {
		t.Fatalf("May(%d): %v, want error %d", node, may, want)
	}
	if e := c.Tick(node); e != want {
		t.Fatalf("Tick(%d): error %d, want %d", node, e, want)
	}
}

// tell has the clocks tell these, and be no more.
func tell(t *testing.T, c *drift.Clocks, want ...int) {
	t.Helper()
	for node, n := range want {
		if now := c.Now(node); now != n {
			t.Fatalf("Now(%d): %d, want %d", node, now, n)
		}
	}
	for _, node := range []int{-1, len(want), len(want) + 1} {
		if now := c.Now(node); now != 0 {
			t.Fatalf("Now(%d): %d, want 0: there is none", node, now)
		}
	}
}

// P10.1: 1 to MaxNodes clocks, which tell 0 and may all tick.
func TestNew(t *testing.T) {
	for nodes := 1; nodes <= api.MaxNodes; nodes++ {
		c := clocks(t, nodes)
		tell(t, c, make([]int, nodes)...)
		for node := range nodes {
			if !c.May(node) {
				t.Errorf("clock %d of %d may not tick", node, nodes)
			}
		}
		tick(t, c, nodes-1, api.OK)
		tick(t, c, nodes, api.ErrArg)
	}
}

// P10.1: other numbers of nodes.
func TestNewRefuses(t *testing.T) {
	for _, nodes := range []int{0, -1, api.MaxNodes + 1, 1 << 40, math.MaxInt, math.MinInt} {
		if c, e := drift.New(nodes); c != nil || e != api.ErrArg {
			t.Errorf("New(%d): error %d", nodes, e)
		}
	}
}

// P10.1: the chapter's example.
func TestExample(t *testing.T) {
	c := clocks(t, 2)
	tick(t, c, 0, api.OK)
	tick(t, c, 0, api.OK)
	tick(t, c, 0, api.ErrDrift)
	tick(t, c, 1, api.OK)
	tick(t, c, 0, api.OK)
	tell(t, c, 3, 1)
}

// P10.1: nodes that are not there; nothing has changed.
func TestNodesThatAreNotThere(t *testing.T) {
	for _, nodes := range []int{1, 3, api.MaxNodes} {
		c := clocks(t, nodes)
		tick(t, c, 0, api.OK)
		for _, node := range []int{-1, nodes, nodes + 1, api.MaxNodes, api.MaxNodes + 1, 1 << 32, math.MaxInt, math.MinInt} {
			tick(t, c, node, api.ErrArg)
			if now := c.Now(node); now != 0 {
				t.Errorf("Now(%d) of %d: %d", node, nodes, now)
			}
		}
		tell(t, c, append([]int{1}, make([]int, nodes-1)...)...)
		tick(t, c, 0, api.OK)
	}
}

// P10.1: a clock alone may always tick.
func TestOneClock(t *testing.T) {
	c := clocks(t, 1)
	for i := range 1000 {
		tell(t, c, i)
		tick(t, c, 0, api.OK)
	}
}

// P10.1: a lead of Ahead is too far, one below it is not; and the clock that
// is behind may tick on.
func TestLeads(t *testing.T) {
	for nodes := 2; nodes <= api.MaxNodes; nodes++ {
		for node := range nodes {
			c := clocks(t, nodes)
			for range api.Ahead {
				tick(t, c, node, api.OK)
			}
			for range 3 { // what is refused stays so
				tick(t, c, node, api.ErrDrift)
			}
			now := make([]int, nodes)
			now[node] = api.Ahead
			tell(t, c, now...)
			for other := range nodes {
				if other != node {
					tick(t, c, node, api.ErrDrift) // its lead over this one is Ahead still
					tick(t, c, other, api.OK)
				}
			}
			tick(t, c, node, api.OK)
		}
	}
}

// P10.1: of the leads any one is enough, not only the first or the last.
func TestOneLeadIsEnough(t *testing.T) {
	for behind := range 5 {
		if behind == 2 {
			continue
		}
		c := clocks(t, 5)
		tick(t, c, 2, api.OK)
		for node := range 5 {
			if node != 2 && node != behind {
				tick(t, c, node, api.OK)
			}
		}
		tick(t, c, 2, api.OK)
		tick(t, c, 2, api.ErrDrift)
		tick(t, c, behind, api.OK)
		tick(t, c, 2, api.OK)
	}
}

// P10.1: a lead does not fall below 0: who has been behind for long may go no
// further ahead for it.
func TestLeadsDoNotFallBelowNought(t *testing.T) {
	c := clocks(t, 2)
	for range 50 {
		tick(t, c, 0, api.OK)
		tick(t, c, 0, api.OK)
		tick(t, c, 1, api.OK)
	}
	tick(t, c, 1, api.OK) // of a lead of 1 already: the last tick was its own
	tick(t, c, 1, api.ErrDrift)
	tell(t, c, 100, 51)
}

// P10.1: what Tick refuses, and what May and Now are asked, changes nothing.
func TestAskingChangesNothing(t *testing.T) {
	c, plain := clocks(t, 3), clocks(t, 3)
	for i, node := range []int{0, 0, 0, 1, 2, 0, 2, 2, 2, 1, 1, 0, 0, 0} {
		for other := -1; other < 4; other++ {
			c.May(other)
			c.Now(other)
			if !c.May(other) {
				c.Tick(other)
			}
		}
		if got, want := c.Tick(node), plain.Tick(node); got != want {
			t.Fatalf("tick %d, of clock %d: error %d, want %d", i, node, got, want)
		}
		tell(t, c, plain.Now(0), plain.Now(1), plain.Now(2))
	}
}

// Clocks that no call made answer ErrNil, and tell nothing.
func TestClocksThatNoCallMade(t *testing.T) {
	for name, c := range map[string]*drift.Clocks{"nil": nil, "plain": {}} {
		for _, node := range []int{0, 1, -1, api.MaxNodes, math.MaxInt} {
			if e := c.Tick(node); e != api.ErrNil {
				t.Errorf("%s: Tick(%d): error %d", name, node, e)
			}
			if c.May(node) || c.Now(node) != 0 {
				t.Errorf("%s: May(%d) %v, Now %d", name, node, c.May(node), c.Now(node))
			}
		}
	}
}

// Clocks of two calls do not know of each other.
func TestClocksAreApart(t *testing.T) {
	a, b := clocks(t, 2), clocks(t, 2)
	tick(t, a, 0, api.OK)
	tick(t, a, 0, api.OK)
	tell(t, b, 0, 0)
	tick(t, b, 0, api.OK)
	tick(t, b, 1, api.OK)
	tick(t, a, 0, api.ErrDrift)
	tell(t, a, 2, 0)
	tell(t, b, 1, 1)
}

// P10.2: ticks below 0 count as 0, above 2^40 as that.
func TestWait(t *testing.T) {
	const most = 1 << 40
	for _, c := range []struct{ ticks, want int }{
		{0, 3}, {1, 5}, {2, 7}, {40, 83}, {60, 123}, {1 << 31, 1<<32 + 3},
		{-1, 3}, {-2, 3}, {-most, 3}, {math.MinInt, 3}, {math.MinInt + 1, 3},
		{most - 1, 2*most + 1}, {most, 2*most + 3}, {most + 1, 2*most + 3}, {2 * most, 2*most + 3},
		{1 << 62, 2*most + 3}, {math.MaxInt - 1, 2*most + 3}, {math.MaxInt, 2*most + 3},
	} {
		if got := drift.Wait(c.ticks); got != c.want {
			t.Errorf("Wait(%d): %d, want %d", c.ticks, got, c.want)
		}
	}
	for n := range 1000 {
		if got := drift.Wait(n); got != 2*n+api.Ahead+1 {
			t.Errorf("Wait(%d): %d", n, got)
		}
	}
}

// P10.3, P10.4: a clock makes twice as many ticks as another one, and Ahead
// more, but not one more than that; and just in Wait(n) ticks the other one
// has made more than n.
func TestAsFarAsItMay(t *testing.T) {
	for _, nodes := range []int{2, 3, api.MaxNodes} {
		for n := range 50 {
			t.Run(fmt.Sprint(nodes, " clocks, ", n, " ticks"), func(t *testing.T) {
				c, ticks := clocks(t, nodes), 0
				run := func(want api.Errno) {
					tick(t, c, nodes-1, want)
					if want == api.OK {
						ticks++
					}
				}
				for range n {
					run(api.OK)
					run(api.OK)
					for node := range nodes - 1 {
						run(api.ErrDrift)
						tick(t, c, node, api.OK)
					}
				}
				for range api.Ahead {
					run(api.OK)
				}
				run(api.ErrDrift)
				if ticks != 2*n+api.Ahead || ticks != drift.Wait(n)-1 {
					t.Fatalf("%d ticks while others made %d", ticks, n)
				}
				for node := range nodes - 1 {
					tick(t, c, node, api.OK)
				}
				run(api.OK)
			})
		}
	}
}
