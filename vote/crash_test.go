package vote_test

import (
	"fmt"
	"maps"
	"slices"
	"testing"

	"amphora/api"
	"amphora/plate"
	"amphora/vote"
)

// dice is numbers that hang on the seed alone.
type dice uint32

func (d *dice) below(n int) int {
	*d = *d*1664525 + 1013904223
	return int(*d>>8) % n
}

// some is some of a list's numbers.
func (d *dice) some(l []int) []int {
	return slices.DeleteFunc(slices.Clone(l), func(int) bool { return d.below(2) == 0 })
}

// crashes is copies of a plate, each crashed in another way: none, all, and
// some of the dirty sectors kept, any one torn.
func crashes(p *plate.Plate, check func(name string, q *plate.Plate)) {
	dirty := p.Dirty()
	d := dice(len(dirty))
	ways := [][]int{nil, dirty}
	for i := range dirty {
		ways = append(ways, dirty[:i], dirty[i+1:])
	}
	for range min(len(dirty), 6) {
		ways = append(ways, d.some(dirty))
	}
	crash := func(keep []int, torn, n int) {
		q := p.Copy()
		q.Crash(keep, torn, n)
		check(fmt.Sprintf("kept %v of %v, %d bytes of %d", keep, dirty, n, torn), q)
	}
	for _, keep := range ways {
		crash(keep, -1, 0)
		for _, torn := range dirty {
			if !slices.Contains(keep, torn) {
				for _, n := range []int{1, 30, 59, 63} {
					crash(keep, torn, n)
				}
			}
		}
	}
}

// model is an acceptor by the chapter's words. What it is sure of was answered
// true; ballots that were tried since then, and ended in an error, may stand.
type model struct {
	promised, sure, prepared int
	tried                    []int
	votes                    map[int]api.Vote
}

func (m *model) list(from int) []api.Vote {
	var l []api.Vote
	for _, slot := range slices.Sorted(maps.Keys(m.votes)) {
		if slot >= from {
			l = append(l, m.votes[slot])
		}
	}
	return l
}

// pair is an acceptor and its model.
type pair struct {
	*bench
	model
}

func newPair(t *testing.T, sectors int) *pair {
	t.Helper()
	return &pair{bench: fresh(t, sectors), model: model{votes: map[int]api.Vote{}}}
}

// full takes in a call that the shelf had no room for: the ballot may stand,
// but no vote does.
func (a *pair) full(name string, ballot int) {
	a.t.Helper()
	if now := a.Promised(); now != a.promised && now != ballot {
		a.t.Fatalf("%s without room: promised %d", name, now)
	}
	a.promised, a.tried = a.Promised(), append(a.tried, ballot)
	a.has(name+" without room", a.promised, a.list(1)...)
}

func (a *pair) prepare(ballot, slot int) api.Errno {
	a.t.Helper()
	name := fmt.Sprintf("Prepare(%d, %d)", ballot, slot)
	ok, votes, e := a.Prepare(ballot, slot)
	if e == api.ErrFull && !ok && len(votes) == 0 && ballot > a.promised {
		a.full(name, ballot)
		return e
	}
	want, told := ballot >= a.promised, []api.Vote(nil)
	if want {
		a.promised, a.sure, a.tried = ballot, ballot, nil
		a.prepared = max(a.prepared, ballot)
		told = a.list(slot)
	}
	if ok != want || e != api.OK || text(votes) != text(told) {
		a.t.Fatalf("%s: %v, error %d, votes%s, want %v and%s", name, ok, e, short(votes), want, short(told))
	}
	a.has(name, a.promised, a.list(1)...)
	return e
}

func (a *pair) accept(ballot, slot, seed int) api.Errno {
	a.t.Helper()
	name := fmt.Sprintf("Accept(%d, %d)", ballot, slot)
	ok, e := a.Accept(ballot, slot, cmd(seed))
	if e == api.ErrFull && !ok && ballot >= a.promised {
		a.full(name, ballot)
		return e
	}
	want := ballot >= a.promised
	if want {
		a.promised, a.sure, a.tried = ballot, ballot, nil
		a.votes[slot] = v(slot, ballot, seed)
	}
	if ok != want || e != api.OK {
		a.t.Fatalf("%s: %v, error %d, want %v", name, ok, e, want)
	}
	if ok && ballot < a.prepared {
		a.t.Fatalf("%s is true behind Prepare(%d)", name, a.prepared)
	}
	a.has(name, a.promised, a.list(1)...)
	return e
}

// crash goes on with what a crash leaves.
func (a *pair) crash(keep []int, torn, n int) {
	a.t.Helper()
	is(a.t, "Crash", a.plate.Crash(keep, torn, n), api.OK)
	a.bench = open(a.t, a.plate)
	a.kept("a crash", a.bench)
	a.promised = a.Promised()
	a.sure, a.tried = a.promised, nil
}

// kept has an acceptor have what was answered true.
func (a *pair) kept(name string, b *bench) {
	a.t.Helper()
	if got := b.Promised(); got != a.sure && !slices.Contains(a.tried, got) {
		a.t.Fatalf("%s: promised %d, want %d, or one of %v", name, got, a.sure, a.tried)
	}
	b.has(name, b.Promised(), a.list(1)...)
}

// P11.2, P11.3, P11.4, P11.5: all short scripts of calls and crashes.
func TestAllShortScripts(t *testing.T) {
	letters := []func(a *pair){
		func(a *pair) { a.prepare(1, 1) },
		func(a *pair) { a.prepare(2, 2) },
		func(a *pair) { a.prepare(3, 1) },
		func(a *pair) { a.accept(1, 1, 1) },
		func(a *pair) { a.accept(2, 1, 2) },
		func(a *pair) { a.accept(3, 2, 3) },
		func(a *pair) { a.crash(nil, -1, 0) },
	}
	var goOn func(script []int)
	goOn = func(script []int) {
		a := newPair(t, 40)
		for _, i := range script {
			letters[i](a)
		}
		for i := range letters {
			if len(script) < 5 {
				goOn(append(slices.Clone(script), i))
			}
		}
	}
	goOn(nil)
}

// step is one call, of the acceptor or of its shelf, or a crash.
func step(d *dice, a *pair) api.Errno {
	a.t.Helper()
	ballot := max(1, a.promised-2+d.below(5))
	switch d.below(8) {
	case 0, 1:
		return a.prepare(ballot, 1+d.below(6))
	case 2, 3, 4:
		return a.accept(ballot, 1+d.below(6), d.below(40))
	case 5:
		a.shelf.Store(d.below(3), 0, 0, []byte(fmt.Sprint(d.below(100000))))
	case 6:
		a.shelf.Drop(d.below(3), 0)
	case 7:
		if dirty := a.plate.Dirty(); len(dirty) > 0 {
			a.crash(d.some(dirty), dirty[d.below(len(dirty))], d.below(64))
			return api.OK
		}
		a.crash(nil, -1, 0)
	}
	return api.OK
}

// P11.4, P11.5: long scripts on shelves with room and without, with crashes in
// any way behind each step.
func TestScripts(t *testing.T) {
	full, raised := 0, 0
	for seed := range 90 {
		d, a := dice(seed), newPair(t, 12+seed)
		for range 50 {
			before := string(a.shelf.Noted(0))
			if step(&d, a) == api.ErrFull {
				full++
				if string(a.shelf.Noted(0)) != before {
					raised++
				}
			}
			crashes(a.plate, func(name string, q *plate.Plate) { a.kept(name, open(t, q)) })
		}
	}
	if full == 0 || raised == 0 || raised == full {
		t.Errorf("%d times without room, %d of them in the midst", full, raised)
	}
}

// P11.2, P11.3: a shelf without room at all: the answer is its error, and what
// was answered true is there.
func TestWithoutRoom(t *testing.T) {
	for sectors := 7; sectors < 40; sectors++ {
		a := newPair(t, sectors)
		slot := 1
		for a.accept(slot, slot, slot) == api.OK {
			slot++
		}
		for range 3 {
			is(t, "Accept once more", a.accept(slot, slot, slot), api.ErrFull)
			crashes(a.plate, func(name string, q *plate.Plate) { a.kept(name, open(t, q)) })
		}
		a.crash(nil, -1, 0)
		if slot > 2 {
			a.prepare(1, 1)
			a.accept(1, 1, 1)
		}
	}
}

// P11.2: so it is for Prepare, where not even the ballot has room.
func TestPrepareWithoutRoom(t *testing.T) {
	b := fresh(t, 30)
	stored := 0
	for b.shelf.Store(1, stored, 0, []byte("a")) == api.OK {
		stored++
	}
	b.wrongFull(1, 1)
	b.has("without room", 0)
	for i := range stored {
		is(t, "Drop", b.shelf.Drop(1, i), api.OK)
	}
	b.prepare(1, 1)
	b.again().has("with room", 1)
}

// wrongFull has both calls answer ErrFull, with nothing beside it.
func (b *bench) wrongFull(ballot, slot int) {
	b.t.Helper()
	if ok, votes, e := b.Prepare(ballot, slot); ok || len(votes) != 0 || e != api.ErrFull {
		b.t.Fatalf("Prepare: %v, error %d", ok, e)
	}
	if ok, e := b.Accept(ballot, slot, cmd(1)); ok || e != api.ErrFull {
		b.t.Fatalf("Accept: %v, error %d", ok, e)
	}
}

// P11.2, P11.3: a plate that has failed: true is never answered any more.
func TestDead(t *testing.T) {
	b := fresh(t, 40)
	b.accept(5, 1, 1)
	b.plate.Fail()
	for ballot, want := range map[int]api.Errno{0: api.ErrArg, 1: api.OK, 4: api.OK, 5: api.ErrDead, 6: api.ErrDead, most: api.ErrDead, most + 1: api.ErrArg} {
		for _, slot := range []int{1, 2, most} {
			if ok, votes, e := b.Prepare(ballot, slot); ok || len(votes) != 0 || e != want {
				t.Errorf("Prepare(%d, %d): %v, error %d, want %d", ballot, slot, ok, e, want)
			}
			for _, seed := range []int{1, 2} {
				if ok, e := b.Accept(ballot, slot, cmd(seed)); ok || e != want {
					t.Errorf("Accept(%d, %d): %v, error %d, want %d", ballot, slot, ok, e, want)
				}
			}
		}
	}
	for _, c := range wrongCommands() {
		if ok, e := b.Accept(6, 1, c); ok || e != api.ErrArg {
			t.Errorf("a wrong command: %v, error %d", ok, e)
		}
	}
	b.has("dead", 5, v(1, 5, 1))
	a, e := vote.Open(b.shelf)
	is(t, "Open", e, api.OK)
	if a.Promised() != 5 || text(a.Votes(1)) != text(b.Votes(1)) {
		t.Error("another acceptor of a dead shelf tells otherwise")
	}
}
