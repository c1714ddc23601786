package lead_test

import (
	"fmt"
	"maps"
	"math"
	"slices"
	"testing"

	"amphora/api"
	"amphora/lead"
)

// majority is whether more than half of the numbers of a list are some nodes,
// by the chapter's words.
func majority(list []int, nodes map[int]bool) bool {
	numbers, agree := map[int]bool{}, 0
	for _, n := range list {
		if !numbers[n] && nodes[n] {
			agree++
		}
		numbers[n] = true
	}
	return 2*agree > len(numbers)
}

// P12.1, P12.3: majorities of none, of one, of an even and of an odd number,
// of voters that stand twice.
func TestMajorities(t *testing.T) {
	for _, x := range []struct {
		nodes, voters []int
		want          bool
	}{
		{nil, nil, false},
		{[]int{0, 1, 2}, nil, false},
		{[]int{0, 1, 2}, []int{}, false},
		{nil, []int{0}, false},
		{[]int{0}, []int{0}, true},
		{[]int{15}, []int{15}, true},
		{[]int{1}, []int{0}, false},
		{[]int{0}, []int{0, 1}, false},
		{[]int{0, 1}, []int{0, 1}, true},
		{[]int{0}, []int{0, 1, 2}, false},
		{[]int{0, 2}, []int{0, 1, 2}, true},
		{[]int{0, 3}, []int{0, 1, 2}, false},
		{[]int{0, 3}, []int{0, 1, 2, 3}, false},
		{[]int{0, 3, 2}, []int{0, 1, 2, 3}, true},
		{[]int{0, 3, 2}, []int{4, 3, 2, 1, 0}, true},
		{[]int{0, 3}, []int{4, 3, 2, 1, 0}, false},
		{[]int{0}, []int{0, 0, 1}, false},
		{[]int{0}, []int{0, 1, 0, 2, 0}, false},
		{[]int{0, 1}, []int{0, 1, 2, 2, 2, 2}, true},
		{[]int{0}, []int{0, 0, 0}, true},
		{[]int{1}, []int{0, 1, 0, 0, 1}, false},
		{[]int{0, 1}, []int{0, 1, 2, 99}, false},
		{[]int{0, 1}, []int{0, 1, 99, 99, 99}, true},
		{[]int{0, 1}, []int{0, 1, -1, math.MinInt}, false},
		{[]int{0, 1}, []int{math.MaxInt, 0, 1}, true},
		{[]int{0, 1, 2, 3, 4, 5, 6, 7}, []int{0, 1, 2, 3, 4, 5, 6, 7, 8, 9, 10, 11, 12, 13, 14, 15}, false},
		{[]int{0, 1, 2, 3, 4, 5, 6, 7, 15}, []int{0, 1, 2, 3, 4, 5, 6, 7, 8, 9, 10, 11, 12, 13, 14, 15}, true},
		{[]int{0, 1, 2, 3, 4, 5, 6, 7}, []int{0, 1, 2, 3, 4, 5, 6, 7, 8, 9, 10, 11, 12, 13, 14}, true},
	} {
		leads, chosen := agreed(t, x.nodes...).both(x.voters)
		if leads != x.want || chosen != x.want {
			t.Errorf("%v of %v: leads %v, chosen %v, want %v", x.nodes, x.voters, leads, chosen, x.want)
		}
	}
}

// few is two tries: some nodes promised the one, and accepted slot 1 of the
// other.
type few struct{ promised, accepted *lead.Try }

func agreed(t *testing.T, nodes ...int) few {
	t.Helper()
	f := few{try(t, 1), try(t, 1)}
	propose(t, f.accepted, 1, 1)
	for _, node := range nodes {
		promise(t, f.promised, node)
		accepted(t, f.accepted, 1, node)
	}
	return f
}

func (f few) both(voters []int) (leads, chosen bool) {
	return f.promised.Leads(voters), f.accepted.Chosen(1, voters)
}

// lists is all lists of up to so many numbers, of few kinds.
func lists(most int, tell func(l []int)) {
	var goOn func(l []int)
	goOn = func(l []int) {
		tell(l)
		for _, n := range []int{0, 1, 2, 15, 16, -1} {
			if len(l) < most {
				goOn(append(slices.Clone(l), n))
			}
		}
	}
	goOn(nil)
}

// P12.1, P12.3, P12.4: all short lists of voters, and all choices of some
// nodes: majorities are those of the chapter's words, and any two of one list
// have a node in common.
func TestMajoritiesMeet(t *testing.T) {
	nodes := []int{0, 1, 2, 15}
	var groups []map[int]bool
	var tries []few
	for bits := range 1 << len(nodes) {
		group := map[int]bool{}
		for i, n := range nodes {
			if bits>>i&1 == 1 {
				group[n] = true
			}
		}
		groups = append(groups, group)
		tries = append(tries, agreed(t, slices.Sorted(maps.Keys(group))...))
	}
	met := 0
	lists(5, func(voters []int) {
		var most []map[int]bool
		for i, group := range groups {
			want := majority(voters, group)
			if leads, chosen := tries[i].both(voters); leads != want || chosen != want {
				t.Fatalf("%v of %v: leads %v, chosen %v, want %v", group, voters, leads, chosen, want)
			}
			if want {
				most = append(most, group)
			}
		}
		for _, one := range most {
			for _, other := range most {
				if !slices.ContainsFunc(voters, func(n int) bool { return one[n] && other[n] }) {
					t.Fatalf("%v and %v of %v do not meet", one, other, voters)
				}
				met++
			}
		}
	})
	if met == 0 {
		t.Error("there is no majority")
	}
}

// Long lists of voters, and those of one number many times.
func TestManyVoters(t *testing.T) {
	f := agreed(t, 0, 1, 2)
	var many []int
	for i := range 100000 {
		many = append(many, i%5)
	}
	if leads, chosen := f.both(many); !leads || !chosen {
		t.Error("three of five are no majority")
	}
	if leads, chosen := f.both(append(many, 5)); leads || chosen {
		t.Error("three of six are a majority")
	}
	for i := range many {
		many[i] = i
	}
	if leads, chosen := f.both(many); leads || chosen {
		t.Error("three of many are a majority")
	}
}

// dice is numbers that hang on the seed alone.
type dice uint32

func (d *dice) below(n int) int {
	*d = *d*1664525 + 1013904223
	return int(*d>>8) % n
}

// model is a try by the chapter's words: it keeps all that came.
type model struct {
	from     int
	promised map[int]bool
	votes    []api.Vote
	proposed map[int]api.Cmd
	accepted map[int]map[int]bool
}

func (m *model) bound(slot int) (api.Vote, bool) {
	var best api.Vote
	found := false
	for _, v := range m.votes {
		if v.Slot == slot && (!found || v.Ballot > best.Ballot) {
			best, found = v, true
		}
	}
	return best, found
}

func (m *model) next() int {
	n := m.from
	for _, v := range m.votes {
		n = max(n, v.Slot+1)
	}
	for slot := range m.proposed {
		n = max(n, slot+1)
	}
	return n
}

// step is one call on both.
func (m *model) step(t *testing.T, d *dice, x *lead.Try) {
	t.Helper()
	node, slot, seed := d.below(19)-1, m.from-2+d.below(10), d.below(3)
	isNode := node >= 0 && node < api.MaxNodes
	want := api.OK
	switch d.below(3) {
	case 0:
		var votes []api.Vote
		for range d.below(5) {
			votes = append(votes, v(m.from-2+d.below(10), d.below(6)-1, d.below(1000)))
		}
		if !isNode {
			want = api.ErrArg
		} else if !m.promised[node] {
			m.promised[node] = true
			m.votes = append(m.votes, slices.DeleteFunc(slices.Clone(votes), func(v api.Vote) bool { return v.Slot < m.from })...)
		}
		is(t, fmt.Sprintf("Promise(%d)", node), x.Promise(node, votes), want)
	case 1:
		there, ok := m.proposed[slot]
		if slot < m.from {
			want = api.ErrArg
		} else if ok && there.ID != seed {
			want = api.ErrThere
		} else if !ok {
			m.proposed[slot], m.accepted[slot] = cmd(seed), map[int]bool{}
		}
		is(t, fmt.Sprintf("Propose(%d)", slot), x.Propose(slot, cmd(seed)), want)
	case 2:
		if _, ok := m.proposed[slot]; !ok || !isNode {
			want = api.ErrArg
		} else {
			m.accepted[slot][node] = true
		}
		is(t, fmt.Sprintf("Accepted(%d, %d)", node, slot), x.Accepted(node, slot), want)
	}
}

// check has both tell the same.
func (m *model) check(t *testing.T, d *dice, x *lead.Try) {
	t.Helper()
	var voters []int
	for range d.below(8) {
		voters = append(voters, d.below(18)-1)
	}
	if got, want := x.Leads(voters), majority(voters, m.promised); got != want {
		t.Fatalf("Leads(%v): %v, %v promised", voters, got, m.promised)
	}
	next(t, x, m.next(), slices.Sorted(maps.Keys(m.proposed))...)
	for slot := m.from - 2; slot < m.from+9; slot++ {
		best, ok := m.bound(slot)
		if c, is := x.Bound(slot); is != ok || text(c) != text(best.Cmd) {
			t.Fatalf("Bound(%d): command %d, %v, want %d, %v", slot, c.ID, is, best.Cmd.ID, ok)
		}
		there, ok := m.proposed[slot]
		if c, is := x.Proposed(slot); is != ok || text(c) != text(there) {
			t.Fatalf("Proposed(%d): command %d, %v, want %d, %v", slot, c.ID, is, there.ID, ok)
		}
		if got, want := x.Chosen(slot, voters), majority(voters, m.accepted[slot]); got != want {
			t.Fatalf("Chosen(%d, %v): %v, %v accepted", slot, voters, got, m.accepted[slot])
		}
	}
}

// P12.1, P12.2, P12.3: in any script a try answers as its definition does.
func TestScripts(t *testing.T) {
	for seed := range 200 {
		d := dice(seed)
		from := []int{1, 2, 50, 1 << 40}[seed%4]
		x, e := lead.New(17, from)
		is(t, "New", e, api.OK)
		m := &model{from, map[int]bool{}, nil, map[int]api.Cmd{}, map[int]map[int]bool{}}
		for range 60 {
			m.step(t, &d, x)
			m.check(t, &d, x)
		}
		if x.Ballot() != 17 {
			t.Fatalf("the ballot is %d by now", x.Ballot())
		}
	}
}

// P12.5: what is bound is never unbound, but by a vote of a greater ballot,
// whatever is called.
func TestNeverUnbound(t *testing.T) {
	for seed := range 100 {
		d, x := dice(1000+seed), try(t, 1)
		var was [4]int // the ballot of a slot, which its command's ID tells too
		for node := range api.MaxNodes {
			var votes []api.Vote
			greatest := was
			for range d.below(4) {
				slot, ballot := 1+d.below(3), 1+d.below(20)
				votes = append(votes, v(slot, ballot, 100*ballot+node))
				greatest[slot] = max(greatest[slot], ballot)
			}
			before := boundIDs(x)
			promise(t, x, node, votes...)
			x.Propose(1+d.below(3), cmd(d.below(9)))
			x.Accepted(d.below(16), 1+d.below(3))
			x.Promise(d.below(node+1), []api.Vote{v(1, 99, 9999), v(2, 99, 9999), v(3, 99, 9999)})
			now := boundIDs(x)
			for slot := 1; slot <= 3; slot++ {
				if now[slot]/100 != greatest[slot] || greatest[slot] == was[slot] && now[slot] != before[slot] {
					t.Fatalf("slot %d was bound to %d, and is to %d, by a ballot of %d", slot, before[slot], now[slot], greatest[slot])
				}
			}
			was = greatest
		}
	}
}

func boundIDs(x *lead.Try) [4]int {
	var ids [4]int
	for slot := range ids {
		c, _ := x.Bound(slot)
		ids[slot] = c.ID
	}
	return ids
}
