package place_test

import (
	"math"
	"slices"
	"testing"

	"amphora/api"
	"amphora/place"
)

// everyone is all nodes.
func everyone() []int {
	var l []int
	for n := range api.MaxNodes {
		l = append(l, n)
	}
	return l
}

// chosen has Choose answer these.
func chosen(t *testing.T, members []int, seed, n int, want ...int) {
	t.Helper()
	if l, e := place.Choose(members, seed, n); e != api.OK || !slices.Equal(l, want) {
		t.Fatalf("Choose(%v, %d, %d): %v, error %d, want %v", members, seed, n, l, e, want)
	}
}

// unchosen has Choose answer an error.
func unchosen(t *testing.T, members []int, seed, n int, want api.Errno) {
	t.Helper()
	if l, e := place.Choose(members, seed, n); e != want || len(l) != 0 {
		t.Fatalf("Choose(%v, %d, %d): %v, error %d, want error %d", members, seed, n, l, e, want)
	}
}

// spare has Spare answer this one.
func spare(t *testing.T, members, used []int, seed, want int) {
	t.Helper()
	if n, e := place.Spare(members, used, seed); e != api.OK || n != want {
		t.Fatalf("Spare(%v, %v, %d): %d, error %d, want %d", members, used, seed, n, e, want)
	}
}

// unspared has Spare answer an error.
func unspared(t *testing.T, members, used []int, seed int) {
	t.Helper()
	if n, e := place.Spare(members, used, seed); e != api.ErrSpare || n != 0 {
		t.Fatalf("Spare(%v, %v, %d): %d, error %d, want error %d", members, used, seed, n, e, api.ErrSpare)
	}
}

// P14.1: the chapter's example.
func TestExample(t *testing.T) {
	chosen(t, []int{0, 2, 5}, 4, 2, 2, 5)
}

// P14.1: turned by the seed, round to the beginning.
func TestTurned(t *testing.T) {
	members := []int{1, 4, 9, 15}
	for _, x := range []struct {
		seed int
		want []int
	}{
		{0, []int{1, 4, 9, 15}},
		{1, []int{4, 9, 15, 1}},
		{2, []int{9, 15, 1, 4}},
		{3, []int{15, 1, 4, 9}}, // one less than there are
		{4, []int{1, 4, 9, 15}}, // as many
		{5, []int{4, 9, 15, 1}}, // one more
		{7, []int{15, 1, 4, 9}},
		{8, []int{1, 4, 9, 15}},
		{1000003, []int{15, 1, 4, 9}},
	} {
		for n := 1; n <= 4; n++ {
			chosen(t, members, x.seed, n, x.want[:n]...)
		}
		spare(t, members, nil, x.seed, x.want[0])
		for used := range 3 {
			spare(t, members, x.want[:used+1], x.seed, x.want[used+1])
		}
	}
}

// P14.1, P14.2: a seed is a number from 0 to below 2^64: -1 is 2^64 - 1.
func TestSeedsBelowZero(t *testing.T) {
	for _, x := range []struct {
		members []int
		seed    int
		begin   int // by reckoning: 2^64 is 1 by 3 and by 5, 4 by 6, 2 by 7
	}{
		{[]int{0, 2, 5}, -1, 0},
		{[]int{0, 2, 5}, -2, 2},
		{[]int{0, 2, 5}, -3, 1},
		{[]int{0, 2, 5}, -4, 0},
		{[]int{0, 2, 5}, math.MaxInt, 1}, // 2^63 is 2 by 3
		{[]int{0, 2, 5}, math.MinInt, 2},
		{[]int{0, 2, 5}, math.MinInt + 1, 0},
		{[]int{0, 1, 2, 3, 4}, -1, 0},
		{[]int{0, 1, 2, 3, 4}, -2, 4},
		{[]int{0, 1, 2, 3, 4}, math.MaxInt, 2}, // 2^63 is 3 by 5
		{[]int{0, 1, 2, 3, 4}, math.MinInt, 3},
		{[]int{0, 1, 2, 3, 4, 5}, -1, 3},
		{[]int{0, 1, 2, 3, 4, 5}, -4, 0},
		{[]int{0, 1, 2, 3, 4, 5}, -5, 5},
		{[]int{0, 1, 2, 3, 4, 5, 6}, -1, 1},
		{[]int{0, 1, 2, 3, 4, 5, 6}, -7, 2},
		{[]int{0, 1, 2, 3, 4, 5, 6}, -8, 1},
		{[]int{3, 7}, -1, 1},
		{[]int{3, 7}, -2, 0},
		{[]int{3, 7}, math.MaxInt, 1},
		{[]int{3, 7}, math.MinInt, 0},
		{[]int{11}, -1, 0},
		{[]int{11}, math.MaxInt, 0},
		{[]int{11}, math.MinInt, 0},
		{everyone(), -1, 15},
		{everyone(), -16, 0},
		{everyone(), math.MaxInt, 15},
		{everyone(), math.MinInt, 0},
	} {
		want := slices.Concat(x.members[x.begin:], x.members[:x.begin])
		for n := 1; n <= len(want); n++ {
			chosen(t, x.members, x.seed, n, want[:n]...)
		}
		spare(t, x.members, nil, x.seed, want[0])
	}
}

// P14.1, P14.2: members that stand twice, that are not in order, that are no
// nodes.
func TestMembersAreASet(t *testing.T) {
	for _, members := range [][]int{
		{0, 2, 5},
		{5, 2, 0},
		{2, 5, 0},
		{0, 0, 2, 5},
		{5, 2, 5, 0, 2, 0, 0},
		{0, 2, 2, 2, 2, 5},
		{-1, 0, 2, 5},
		{0, 2, 5, api.MaxNodes},
		{api.MaxNodes, 5, -1, 2, 0, -1},
		{math.MaxInt, 5, math.MinInt, 2, 0, 17, 1 << 32, 1<<32 + 1, -16, -15},
		{256, 0, 2, 258, 5, 261},
	} {
		for seed, want := range [][]int{{0, 2, 5}, {2, 5, 0}, {5, 0, 2}, {0, 2, 5}, {2, 5, 0}} {
			for n := 1; n <= 3; n++ {
				chosen(t, members, seed, n, want[:n]...)
			}
			unchosen(t, members, seed, 4, api.ErrSpare)
			spare(t, members, nil, seed, want[0])
			spare(t, members, want[:1], seed, want[1])
			spare(t, members, want[:2], seed, want[2])
			unspared(t, members, want, seed)
		}
	}
}

// P14.1, P14.2: the least and the greatest node are members; their neighbours
// are none.
func TestEdgesOfNodes(t *testing.T) {
	last := api.MaxNodes - 1
	members := []int{-1, 0, last, api.MaxNodes}
	chosen(t, members, 0, 2, 0, last)
	chosen(t, members, 1, 2, last, 0)
	unchosen(t, members, 0, 3, api.ErrSpare)
	spare(t, members, []int{0}, 0, last)
	spare(t, members, []int{last}, 1, 0)
	unspared(t, members, []int{0, last}, 0)
	for _, none := range []int{-1, api.MaxNodes, math.MinInt, math.MaxInt} {
		unchosen(t, []int{none}, 0, 1, api.ErrSpare)
		unspared(t, []int{none}, nil, 0)
	}
}

// P14.1, P14.2: no members.
func TestNoMembers(t *testing.T) {
	for _, members := range [][]int{nil, {}, {-1}, {api.MaxNodes, api.MaxNodes + 1}, make([]int, 0, 5)} {
		for _, seed := range []int{0, 1, -1, math.MaxInt, math.MinInt} {
			for _, n := range []int{1, 2, api.MaxNodes} {
				unchosen(t, members, seed, n, api.ErrSpare)
			}
			for _, n := range []int{0, -1, api.MaxNodes + 1} {
				unchosen(t, members, seed, n, api.ErrArg)
			}
			for _, used := range [][]int{nil, {}, {0}, {-1}, everyone()} {
				unspared(t, members, used, seed)
			}
		}
	}
}

// P14.1: n of 1 to MaxNodes, and no other one; that is told ahead of too few
// members.
func TestHowMany(t *testing.T) {
	for _, members := range [][]int{nil, {3}, {3, 4, 9}, everyone()} {
		for _, n := range []int{0, -1, -2, math.MinInt, api.MaxNodes + 1, api.MaxNodes + 2, 1 << 32, math.MaxInt} {
			unchosen(t, members, 1, n, api.ErrArg)
		}
	}
	for n := 1; n <= api.MaxNodes; n++ {
		chosen(t, everyone(), 0, n, everyone()[:n]...)
		chosen(t, everyone()[:n], 0, n, everyone()[:n]...) // just as many as there are
		unchosen(t, everyone()[:n-1], 0, n, api.ErrSpare)  // one more
		unchosen(t, everyone()[n:], 0, api.MaxNodes, api.ErrSpare)
	}
	chosen(t, everyone(), 15, 16, 15, 0, 1, 2, 3, 4, 5, 6, 7, 8, 9, 10, 11, 12, 13, 14)
	unchosen(t, []int{3, 3, 3}, 0, 2, api.ErrSpare)
}

// P14.2: used numbers that are no members, all members used, all but one.
func TestSpare(t *testing.T) {
	members := []int{1, 4, 9, 15}
	for seed, want := range []int{1, 4, 9, 15, 1} {
		for _, used := range [][]int{nil, {}, {0, 2, 3, 5}, {-1, api.MaxNodes, math.MinInt, math.MaxInt}, {17, 20, 25, 31, -15, 1<<32 + 4}} {
			spare(t, members, used, seed, want)
		}
	}
	for seed := range 9 {
		for i, left := range members {
			spare(t, members, slices.Delete(slices.Clone(members), i, i+1), seed, left)
			spare(t, members, slices.DeleteFunc(everyone(), func(n int) bool { return n == left }), seed, left)
		}
		unspared(t, members, members, seed)
		unspared(t, members, everyone(), seed)
		unspared(t, members, []int{15, 15, 9, 1, 0, -1, 4, 1, 77}, seed)
	}
	// Who is used counts for the turn, which is begun at a place of all members.
	spare(t, members, []int{1}, 1, 4)
	spare(t, members, []int{1}, 3, 15)
	spare(t, members, []int{4}, 1, 9)
	spare(t, members, []int{15}, 3, 1)
	spare(t, members, []int{15, 1}, 3, 4)
	spare(t, members, []int{9, 15, 1}, 2, 4)
	spare(t, members, []int{4, 4, 9, 4}, 1, 15)
}

// Long lists, with few members among them.
func TestLongLists(t *testing.T) {
	var long []int
	for i := range 200000 {
		long = append(long, i*7919%100000-50000)
	}
	chosen(t, long, 5, 16, 5, 6, 7, 8, 9, 10, 11, 12, 13, 14, 15, 0, 1, 2, 3, 4)
	unspared(t, long, long, 5)
	spare(t, long, []int{5, 6}, 5, 7)
	twice := slices.Repeat([]int{9, 3, 99}, 100000)
	chosen(t, twice, 1, 2, 9, 3)
	unchosen(t, twice, 1, 3, api.ErrSpare)
	spare(t, everyone(), twice, 3, 4)
	spare(t, twice, slices.Repeat([]int{9}, 100000), 1, 3)
}

// What is handed in is not changed, the room behind a list's end included, and
// what is told may be written over.
func TestMemory(t *testing.T) {
	for _, list := range [][]int{{5, 0, 2, 5, 99}, {0, 2, 5}, {5, 2, 0}} {
		members := append(slices.Clone(list), 7, 1, 8)[:len(list)]
		used := append([]int{9, 2, 2}, 0, 5)[:3]
		were := slices.Concat(members[:len(list)+3], used[:5])
		for seed, want := range [][]int{{0, 2, 5}, {2, 5, 0}, {5, 0, 2}} {
			one, _ := place.Choose(members, seed, 3)
			two, _ := place.Choose(members, seed, 3)
			clear(one[:cap(one)])
			if !slices.Equal(two, want) {
				t.Fatalf("two answers share memory: %v", two)
			}
			clear(two[:cap(two)])
			chosen(t, members, seed, 3, want...)
			spare(t, members, used, seed, []int{0, 5, 5}[seed])
			unchosen(t, members, seed, 4, api.ErrSpare)
			unspared(t, members, members, seed)
		}
		if now := slices.Concat(members[:len(list)+3], used[:5]); !slices.Equal(now, were) {
			t.Fatalf("what was handed in was %v, and is %v", were, now)
		}
	}
}

// An answer stays as it was told, whatever is written over what was handed in.
func TestMembersAreNotKept(t *testing.T) {
	members := []int{0, 2, 5}
	told, e := place.Choose(members, 0, 3)
	if e != api.OK {
		t.Fatal(e)
	}
	clear(members)
	if !slices.Equal(told, []int{0, 2, 5}) {
		t.Fatalf("what was told is %v by now", told)
	}
	chosen(t, members, 0, 1, 0)
	unchosen(t, members, 0, 2, api.ErrSpare)
}
