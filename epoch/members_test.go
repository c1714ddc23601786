package epoch_test

import (
	"math"
	"slices"
	"testing"

	"amphora/api"
	"amphora/epoch"
)

// wrongNodes is numbers that are none of a node of so many.
func wrongNodes(count int) []int {
	return []int{-1, -2, math.MinInt, count, api.MaxNodes, api.MaxNodes + 1, 255, 1 << 32, math.MaxInt}
}

// P15.1: who is no member, and did not fail, is admitted.
func TestAdmit(t *testing.T) {
	s := state(t, 5)
	does(t, s, retire(1), retire(3), fail(4))
	for _, n := range wrongNodes(5) {
		refuses(t, s, admit(n))
	}
	refuses(t, s, admit(0), admit(2), admit(4))
	since(t, s, 4)
	does(t, s, admit(3))
	since(t, s, 5)
	are(t, "Members", s.Members(), 0, 2, 3)
	refuses(t, s, admit(3))
	does(t, s, admit(1))
	are(t, "Members", s.Members(), 0, 1, 2, 3)
	does(t, s, retire(1), fail(1))
	refuses(t, s, admit(1))
	are(t, "Members", s.Members(), 0, 2, 3)
}

// P15.1: a member is retired, also the last one.
func TestRetire(t *testing.T) {
	s := state(t, 3)
	for _, n := range wrongNodes(3) {
		refuses(t, s, retire(n))
	}
	does(t, s, fail(2))
	refuses(t, s, retire(2))
	does(t, s, retire(0))
	are(t, "Members", s.Members(), 1)
	refuses(t, s, retire(0))
	does(t, s, retire(1))
	are(t, "Members", s.Members())
	refuses(t, s, retire(1), put(9, "a", code(1, 0), 1))
	since(t, s, 4)
	if s.Failed(0) || s.Failed(1) || !s.Failed(2) {
		t.Fatal("who is retired failed")
	}
	does(t, s, admit(1))
	are(t, "Members", s.Members(), 1)
}

// P15.1, P15.2: a node fails once, a member or not.
func TestFail(t *testing.T) {
	s := state(t, 4)
	for _, n := range wrongNodes(4) {
		refuses(t, s, fail(n))
	}
	does(t, s, retire(1), fail(1))
	refuses(t, s, fail(1))
	are(t, "Members", s.Members(), 0, 2, 3)
	does(t, s, fail(3))
	are(t, "Members", s.Members(), 0, 2)
	refuses(t, s, fail(3), admit(3), retire(3))
	since(t, s, 4)
	for _, n := range append(wrongNodes(4), 0, 2) {
		if s.Failed(n) {
			t.Fatalf("%d failed", n)
		}
	}
	if !s.Failed(1) || !s.Failed(3) {
		t.Fatal("who failed did not")
	}
	does(t, s, fail(0), fail(2))
	are(t, "Members", s.Members())
}

// P15.1: moves to a node that is retired, or fails, are gone, and recodes on
// it; others stay, in order.
func TestLeaving(t *testing.T) {
	for _, leave := range []func(int) api.Cmd{retire, fail} {
		s := state(t, 7)
		puts(t, s, put(16, "a", code(1, 1), 0, 1), put(17, "b", code(1, 1), 0, 1), put(18, "c", code(1, 0), 0), put(19, "d", code(1, 0), 0), put(20, "e", code(1, 0), 1))
		does(t, s, move(17, 1, 3), move(16, 0, 2), move(17, 0, 2), move(16, 1, 4))
		does(t, s, recode(53, 20, code(2, 0), 5, 4), recode(70, 19, code(2, 0), 2, 5), recode(71, 18, code(2, 0), 5, 3))
		does(t, s, leave(2))
		moves(t, s, api.Move{Blob: 17, Index: 1, Node: 3}, api.Move{Blob: 16, Index: 1, Node: 4})
		recodes(t, s, 20, 18)
		refuses(t, s, change(16, 0, 2), change(17, 0, 2), recast(19, 70))
		does(t, s, change(16, 1, 4), recast(18, 71), recast(20, 53))
	}
}

// P15.1: recodes that a node drives are gone when it fails, not when it is
// retired.
func TestDrivers(t *testing.T) {
	for driver := range 4 {
		for _, x := range []struct {
			leave api.Cmd
			want  []int
		}{
			{fail(driver), []int{16, 18}},
			{retire(driver), []int{17, 16, 18, 19}},
		} {
			s := state(t, 6)
			puts(t, s, put(16, "a", code(1, 0), 4), put(17, "b", code(1, 0), 4), put(18, "c", code(1, 0), 5), put(19, "d", code(1, 0), 5))
			does(t, s, recode(32+driver, 17, code(1, 0), 4)) // on the node where it lies
			does(t, s, recode(48+(driver+1)%4, 16, code(1, 0), 5))
			does(t, s, recode(64+(driver+2)%4, 18, code(1, 0), 4))
			does(t, s, recode(api.MaxNumber+driver, 19, code(1, 0), 4))
			does(t, s, x.leave)
			recodes(t, s, x.want...)
		}
	}
}

// P15.1: a node that drives a recode may be no member when it fails.
func TestDriverThatIsNoMember(t *testing.T) {
	s := state(t, 4)
	puts(t, s, put(16, "a", code(1, 0), 0))
	does(t, s, recode(35, 16, code(1, 1), 1, 2), retire(3))
	recodes(t, s, 16)
	does(t, s, fail(3))
	recodes(t, s)
	refuses(t, s, recast(16, 35))
	lies(t, s, "a", 0)
}

// P15.1, P15.2: voters count from the slot Alpha behind their command on.
func TestVoters(t *testing.T) {
	s, e := epoch.New(api.Setup{Nodes: 6, Voters: 2, Code: code(1, 0)})
	if e != api.OK {
		t.Fatal(e)
	}
	does(t, s, api.Cmd{}, api.Cmd{}, voters(5, 2, 3)) // at slot 3
	since(t, s, 2)
	does(t, s, voters(4)) // at slot 4
	does(t, s, api.Cmd{}, voters(1, 0))
	since(t, s, 4)
	for _, x := range []struct {
		slot int
		want []int
	}{
		{math.MinInt, []int{0, 1}}, {-1, []int{0, 1}}, {0, []int{0, 1}}, {1, []int{0, 1}}, {3, []int{0, 1}}, {6, []int{0, 1}},
		{7, []int{5, 2, 3}}, {8, []int{4}}, {9, []int{4}}, {10, []int{1, 0}}, {11, []int{1, 0}}, {1 << 50, []int{1, 0}}, {math.MaxInt, []int{1, 0}},
	} {
		are(t, "Voters", s.Voters(x.slot), x.want...)
	}
	are(t, "Members", s.Members(), everyone(6)...)
}

// P15.1: voters with a node that failed, that stand twice, too few and too
// many; one that is retired may vote.
func TestVotersRefused(t *testing.T) {
	s := state(t, api.MaxNodes)
	all := everyone(api.MaxNodes)
	does(t, s, retire(2), voters(2), voters(all...))
	refuses(t, s, voters(), api.Cmd{Kind: api.CmdVoters, Nodes: []int{}})
	refuses(t, s, voters(everyone(api.MaxNodes+1)...), voters(append(slices.Clone(all), 0)...))
	refuses(t, s, voters(0, 0), voters(0, 1, 2, 1), voters(3, 4, 5, 3), voters(7, 7, 7))
	refuses(t, s, voters(slices.Repeat([]int{1}, 1000000)...), voters(everyone(1000000)...))
	does(t, s, fail(15), fail(2))
	refuses(t, s, voters(15), voters(2), voters(0, 15), voters(15, 0, 1), voters(all...))
	does(t, s, voters(all[3:15]...))
	since(t, s, 7)
	are(t, "Voters", s.Voters(1), all...)
	are(t, "Voters", s.Voters(math.MaxInt), all[3:15]...)
}

// P15.1: a voter that is no node of the cluster is not asked not to be one.
func TestVotersThatAreNoNodes(t *testing.T) {
	s := state(t, 3)
	does(t, s, voters(everyone(api.MaxNodes)...), voters(0, 99, -1))
	are(t, "Voters", s.Voters(5), everyone(api.MaxNodes)...)
	are(t, "Voters", s.Voters(6), 0, 99, -1)
	refuses(t, s, voters(99, 0, 99))
}

// P15.1: a node that fails stays a voter till others are.
func TestVoterFails(t *testing.T) {
	s := state(t, 3)
	does(t, s, fail(1))
	are(t, "Voters", s.Voters(9), 0, 1, 2)
}

// P15.1: codes for new blobs, at the edges.
func TestWidth(t *testing.T) {
	s := state(t, 3)
	for i, c := range []api.Code{code(1, 0), code(16, 0), code(1, 15), code(8, 8), code(2, 1), code(2, 1)} {
		does(t, s, width(c))
		since(t, s, 2+i)
		if s.Code() != c {
			t.Fatalf("Code: %v, want %v", s.Code(), c)
		}
	}
	for _, c := range []api.Code{
		{}, code(0, 1), code(-1, 1), code(1, -1), code(16, 1), code(17, 0), code(1, 16), code(255, 0), code(255, 1),
		code(math.MaxInt, 1), code(1, math.MaxInt), code(math.MaxInt, math.MaxInt), code(math.MinInt, math.MinInt), code(20, -5),
	} {
		refuses(t, s, width(c))
	}
	// A put, and a recode, say their codes themselves.
	puts(t, s, put(9, "a", code(1, 1), 0, 1))
	does(t, s, recode(10, 9, code(1, 2), 0, 1, 2))
	if s.Code() != code(2, 1) {
		t.Fatalf("Code: %v by now", s.Code())
	}
}
