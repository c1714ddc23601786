package epoch_test

import (
	"slices"
	"testing"

	"amphora/api"
	"amphora/epoch"
)

// roomy is a command with more behind its list's end that nobody may change.
func roomy(c api.Cmd) api.Cmd {
	c.Nodes = append(slices.Clone(c.Nodes), 5, 4, 3)[:len(c.Nodes)]
	return c
}

// spoil writes over all that a list reaches.
func spoil[T any](l []T, by T) {
	l = l[:cap(l)]
	for i := range l {
		l[i] = by
	}
}

// full is a state with something of all that there is.
func full(t *testing.T) *epoch.State {
	t.Helper()
	return of(put(18, "c", code(1, 1), 2, 3), put(19, "d", code(1, 0), 5), voters(2, 0, 4), move(16, 1, 3), move(16, 0, 4),
		recode(40, 17, code(1, 1), 2, 5), recode(41, 18, code(2, 1), 4, 1, 0), remove("d")).run(t)
}

// Commands that are handed in are not changed, and may be written over.
func TestCommandsAreNotChangedNorKept(t *testing.T) {
	s := full(t)
	for _, c := range []api.Cmd{
		put(60, "e", code(1, 2), 3, 1, 0), put(61, "e", code(1, 2), 3, 1, 0), put(62, "k9", code(1, 1), 3, 3),
		recode(63, 60, code(1, 1), 2, 4), recode(64, 60, code(1, 1), 2, 4), voters(4, 2), voters(2, 2), voters(1),
		{ID: 65, Nodes: []int{1, 2}}, {ID: 66, Kind: 99, Nodes: []int{1, 2}},
	} {
		x := roomy(c)
		before := text(x.Nodes[:cap(x.Nodes)])
		apply(t, s, x)
		was := told(s)
		if text(x.Nodes[:cap(x.Nodes)]) != before {
			t.Fatalf("%s is changed", text(c))
		}
		spoil(x.Nodes, 1)
		if told(s) != was {
			t.Fatalf("the list of %s is kept", text(c))
		}
	}
	does(t, s, recast(60, 63))
	lies(t, s, "e", 2, 4)
}

// spoilAll writes over all that a state tells.
func spoilAll(s *epoch.State) {
	for n := -1; n < 120; n++ {
		spoil(s.Voters(n), -9)
		spoil(s.Mine(n), [2]int{-9, -9})
		b, _ := s.Find(n)
		spoil(b.Nodes, -9)
	}
	spoil(s.Members(), -9)
	for _, key := range s.Keys() {
		b, _ := s.Blob(key)
		spoil(b.Nodes, -9)
	}
	spoil(s.Keys(), "spoilt")
	spoil(s.Moves(), api.Move{Blob: -9})
	l := s.Recodes()
	for _, r := range l {
		spoil(r.Nodes, -9)
	}
	spoil(l, api.Recode{Blob: -9})
}

// What is told may be written over.
func TestAnswersAreNewMemory(t *testing.T) {
	s := full(t)
	c, was := s.Copy(), told(s)
	for range 2 {
		spoilAll(s)
		if told(s) != was || !s.Same(c) {
			t.Fatalf("a state that told\n%stells\n%s", was, told(s))
		}
		spoilAll(c)
		if told(c) != was || told(s) != was {
			t.Fatal("a copy shares memory")
		}
	}
	does(t, s, recast(17, 40), recast(18, 41))
	was = told(s)
	spoilAll(s)
	if told(s) != was {
		t.Fatal("a recode shares memory with what is told of its blob")
	}
}

// So may outcomes.
func TestOutcomesAreNewMemory(t *testing.T) {
	s := full(t)
	for i, c := range []api.Cmd{put(60, "e", code(1, 2), 3, 1, 0), get("a"), get("a"), get("e"), get("c")} {
		x := roomy(c)
		o := apply(t, s, x)
		other := apply(t, s, get(c.Key))
		was, same := told(s), text(other)
		spoil(o.Blob.Nodes, -9)
		if told(s) != was || text(other) != same || slices.Contains(x.Nodes[:cap(x.Nodes)], -9) {
			t.Fatalf("%d: the outcome of %s shares memory", i, text(c))
		}
	}
}

// No two lists of one answer, and no two answers, share memory.
func TestListsAreApart(t *testing.T) {
	s := state(t, 6)
	nodes := []int{1, 2}
	puts(t, s, put(16, "a", code(1, 1), 0, 1), put(17, "b", code(1, 1), 0, 1))
	does(t, s, recode(40, 16, code(1, 1), nodes...), recode(41, 17, code(1, 1), nodes...))
	one, two := s.Recodes(), s.Recodes()
	spoil(one[0].Nodes, -9)
	for _, l := range [][]int{one[1].Nodes, two[0].Nodes, two[1].Nodes, nodes} {
		are(t, "Nodes", l, 1, 2)
	}
	a, _ := s.Blob("a")
	b, _ := s.Find(16)
	c, _ := s.Blob("b")
	spoil(a.Nodes, -9)
	are(t, "Nodes", b.Nodes, 0, 1)
	are(t, "Nodes", c.Nodes, 0, 1)
	v, w := s.Voters(1), s.Voters(1)
	spoil(v, -9)
	are(t, "Voters", w, everyone(6)...)
	v, w = s.Members(), s.Members()
	spoil(v, -9)
	are(t, "Members", w, everyone(6)...)
}

// Answers stay as they were told, whatever becomes of the state.
func TestAnswersAreNotChanged(t *testing.T) {
	s := full(t)
	o := apply(t, s, get("a"))
	b, _ := s.Blob("a")
	f, _ := s.Find(16)
	was := text([]any{o, b, f, s.Members(), s.Keys(), s.Moves(), s.Recodes(), s.Mine(0), s.Voters(1), s.Voters(99)})
	held := []any{o, b, f, s.Members(), s.Keys(), s.Moves(), s.Recodes(), s.Mine(0), s.Voters(1), s.Voters(99)}
	does(t, s, change(16, 0, 4), change(16, 1, 3), recast(17, 40), recast(18, 41), voters(1), retire(5), fail(0), remove("a"), remove("b"))
	if now := text(held); now != was {
		t.Fatalf("what was told as\n%s\nis\n%s", was, now)
	}
}
