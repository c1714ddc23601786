package lease_test

import (
	"maps"
	"slices"
	"testing"

	"amphora/api"
	"amphora/drift"
	"amphora/lease"
)

// dice is numbers that hang on the seed alone.
type dice uint32

func (d *dice) below(n int) int {
	*d = *d*1664525 + 1013904223
	return int(*d>>8) % n
}

// model is a list by the chapter's words: until when each shard waits.
type model map[[2]int]int

// all is those that wait until a time, or less; rising.
func (m model) all(until int) [][2]int {
	var l [][2]int
	for _, x := range slices.SortedFunc(maps.Keys(m), func(a, b [2]int) int { return slices.Compare(a[:], b[:]) }) {
		if m[x] <= until {
			l = append(l, x)
		}
	}
	return l
}

// P16.2: in any script a list answers as its definition does.
func TestScripts(t *testing.T) {
	for seed := range 300 {
		d, l, m := dice(seed), lease.New(), model{}
		for range 150 {
			x, now := [2]int{d.below(5), d.below(3) - 1}, d.below(400)-20
			switch d.below(5) {
			case 0, 1, 2:
				if _, ok := m[x]; !ok {
					m[x] = max(now, 0) + wait
				}
				retire(t, l, x[0], x[1], now)
			case 3:
				delete(m, x)
				keep(t, l, x[0], x[1])
			case 4:
				want := m.all(max(now, 0))
				for _, x := range want {
					delete(m, x)
				}
				due(t, l, now, want...)
			}
			waits(t, l, m.all(latest)...)
		}
	}
}

// taken is a lease, by the clock of whoever took it.
type taken struct{ node, until int }

// scene is clocks, a list at each node, and the leases that were taken ahead
// of each shard that waits there.
type scene struct {
	clocks *drift.Clocks
	lists  []*lease.List
	leases map[[2]int][]taken // by the blob, and the node where it waits
	open   []taken
	freed  int
}

func newScene(t *testing.T, nodes int) *scene {
	t.Helper()
	c, e := drift.New(nodes)
	if e != api.OK {
		t.Fatal(e)
	}
	s := &scene{clocks: c, leases: map[[2]int][]taken{}}
	for range nodes {
		s.lists = append(s.lists, lease.New())
	}
	return s
}

// take has a node take a lease.
func (s *scene) take(node int) {
	s.open = append(s.open, taken{node, lease.Until(s.clocks.Now(node))})
}

// retire has a blob's shard wait at a node.
func (s *scene) retire(t *testing.T, node, blob int) {
	t.Helper()
	s.leases[[2]int{blob, node}] = slices.Clone(s.open)
	retire(t, s.lists[node], blob, 0, s.clocks.Now(node))
}

// tick has a clock go on: what is due then nobody may use any more.
func (s *scene) tick(t *testing.T, node int) bool {
	t.Helper()
	if !s.clocks.May(node) {
		return false
	}
	s.clocks.Tick(node)
	for _, x := range s.lists[node].Due(s.clocks.Now(node)) {
		s.freed++
		for _, l := range s.leases[[2]int{x[0], node}] {
			if lease.Valid(l.until, s.clocks.Now(l.node)) {
				t.Fatalf("%v is due at %d, where it is %d, and %d, where it is %d, may use it until %d",
					x, node, s.clocks.Now(node), l.node, s.clocks.Now(l.node), l.until)
			}
		}
	}
	s.open = slices.DeleteFunc(s.open, func(l taken) bool { return !lease.Valid(l.until, s.clocks.Now(l.node)) })
	return true
}

// P16.3: whatever the clocks do, if they are as layer 10 has them: a lease
// that was taken ahead of a Retire does not hold any more when the shard is
// due.
func TestNobodyUsesWhatIsDue(t *testing.T) {
	for seed := range 60 {
		d, nodes := dice(seed), 2+seed%4
		s := newScene(t, nodes)
		fast := seed % nodes // in most scripts one clock runs as far ahead as it may
		for blob := range 1500 {
			node := d.below(nodes)
			switch d.below(4) {
			case 0:
				s.take(node)
			case 1:
				s.retire(t, node, blob)
			}
			if seed%5 == 4 || !s.tick(t, fast) {
				s.tick(t, d.below(nodes))
			}
		}
		if s.freed == 0 {
			t.Fatalf("seed %d: nothing came due", seed)
		}
	}
}

// P16.3: at the least favourable: the lease is taken just ahead of the Retire,
// and the reader's clock is as slow as it may be.
func TestSlowReader(t *testing.T) {
	for ahead := range 4 {
		s := newScene(t, 2)
		for range ahead {
			s.tick(t, 1)
		}
		s.take(1)
		s.retire(t, 0, 1)
		for s.freed == 0 {
			if !s.tick(t, 0) {
				s.tick(t, 1)
			}
		}
	}
}

// P16.2: many shards, and many that are kept, in any order of their times.
func TestMany(t *testing.T) {
	const count = 20000
	l := lease.New()
	for i := range count {
		retire(t, l, i*7919%count, 0, i*31%977)
		retire(t, l, i, 1, i)
		keep(t, l, i, 1)
	}
	if n := len(l.All()); n != count {
		t.Fatalf("%d wait, want %d", n, count)
	}
	for i := 0; i < count; i += 2 {
		keep(t, l, i, 0)
	}
	told := 0
	for now := range 977 + wait {
		list := l.Due(now)
		if !slices.IsSortedFunc(list, func(a, b [2]int) int { return slices.Compare(a[:], b[:]) }) {
			t.Fatalf("Due(%d) does not rise", now)
		}
		told += len(list)
	}
	if told != count/2 {
		t.Fatalf("%d were due, want %d", told, count/2)
	}
}
