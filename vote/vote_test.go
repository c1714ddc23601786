package vote_test

import (
	"fmt"
	"math"
	"slices"
	"testing"

	"amphora/api"
	"amphora/plate"
	"amphora/shelf"
	"amphora/vote"
)

// most is the greatest ballot and slot.
const most = api.MaxNumber

// cmd is a command that may be, of which each field hangs on the seed.
func cmd(seed int) api.Cmd {
	c := api.Cmd{
		ID: 1000 + seed, Kind: seed % 13, Key: fmt.Sprint("k", seed%1000), Blob: seed + 3, Other: seed + 4, Index: seed + 5,
		Node: seed % 16, Size: seed + 7, Sum: uint32(seed + 8), Code: api.Code{K: seed % 250, M: seed % 251},
	}
	for i := range seed % 5 {
		c.Nodes = append(c.Nodes, (seed+i)%16)
	}
	return c
}

// v is a vote for cmd(seed).
func v(slot, ballot, seed int) api.Vote { return api.Vote{Slot: slot, Ballot: ballot, Cmd: cmd(seed)} }

// text is all of votes; lists that are nil or empty are alike in it.
func text(votes []api.Vote) string { return fmt.Sprintf("%+v", votes) }

// short is votes in few words.
func short(votes []api.Vote) string {
	s := ""
	for _, v := range votes {
		s += fmt.Sprintf(" (slot %d, ballot %d, command %d)", v.Slot, v.Ballot, v.Cmd.ID)
	}
	return s
}

// is has a call answer the error.
func is(t *testing.T, name string, e, want api.Errno) {
	t.Helper()
	if e != want {
		t.Fatalf("%s: error %d, want %d", name, e, want)
	}
}

// bench is an acceptor with what it stands on.
type bench struct {
	t     *testing.T
	plate *plate.Plate
	shelf *shelf.Shelf
	*vote.Acceptor
}

// open is an acceptor of a plate.
func open(t *testing.T, p *plate.Plate) *bench {
	t.Helper()
	s, e := shelf.Open(p)
	is(t, "shelf.Open", e, api.OK)
	a, e := vote.Open(s)
	is(t, "Open", e, api.OK)
	return &bench{t, p, s, a}
}

// fresh is an acceptor of a new plate.
func fresh(t *testing.T, sectors int) *bench {
	t.Helper()
	p, e := plate.New(sectors)
	is(t, "plate.New", e, api.OK)
	return open(t, p)
}

// prepare has a ballot be promised, and the votes be told.
func (b *bench) prepare(ballot, slot int, want ...api.Vote) {
	b.t.Helper()
	ok, votes, e := b.Prepare(ballot, slot)
	if !ok || e != api.OK || text(votes) != text(want) {
		b.t.Fatalf("Prepare(%d, %d): %v, error %d, votes%s, want%s", ballot, slot, ok, e, short(votes), short(want))
	}
}

// accept has a command be accepted.
func (b *bench) accept(ballot, slot, seed int) {
	b.t.Helper()
	if ok, e := b.Accept(ballot, slot, cmd(seed)); !ok || e != api.OK {
		b.t.Fatalf("Accept(%d, %d): %v, error %d", ballot, slot, ok, e)
	}
}

// refuses has neither call take a ballot, and change anything.
func (b *bench) refuses(ballot, slot int) {
	b.t.Helper()
	before := b.all()
	if ok, votes, e := b.Prepare(ballot, slot); ok || len(votes) != 0 || e != api.OK {
		b.t.Fatalf("Prepare(%d, %d): %v, error %d, votes%s", ballot, slot, ok, e, short(votes))
	}
	if ok, e := b.Accept(ballot, slot, cmd(77)); ok || e != api.OK {
		b.t.Fatalf("Accept(%d, %d): %v, error %d", ballot, slot, ok, e)
	}
	b.unchanged("refused", before)
}

// wrong has both calls answer an error, and change nothing.
func (b *bench) wrong(ballot, slot int, want api.Errno) {
	b.t.Helper()
	before := b.all()
	if ok, votes, e := b.Prepare(ballot, slot); ok || len(votes) != 0 || e != want {
		b.t.Fatalf("Prepare(%d, %d): %v, error %d, votes%s, want error %d", ballot, slot, ok, e, short(votes), want)
	}
	if ok, e := b.Accept(ballot, slot, cmd(77)); ok || e != want {
		b.t.Fatalf("Accept(%d, %d): %v, error %d, want %d", ballot, slot, ok, e, want)
	}
	b.unchanged("a wrong call", before)
}

// has has the acceptor tell just this.
func (b *bench) has(name string, promised int, want ...api.Vote) {
	b.t.Helper()
	if got := b.Promised(); got != promised {
		b.t.Fatalf("%s: promised %d, want %d", name, got, promised)
	}
	if got := b.Votes(1); text(got) != text(want) {
		b.t.Fatalf("%s: votes%s, want%s", name, short(got), short(want))
	}
}

// all is what is on the plate, as it is read, and which sectors are dirty.
func (b *bench) all() string {
	b.t.Helper()
	s := fmt.Sprint(b.plate.Dirty())
	for i := range b.plate.Sectors() {
		sector, e := b.plate.Read(i)
		is(b.t, "plate.Read", e, api.OK)
		s += string(sector)
	}
	return s
}

// unchanged has the plate be as it was.
func (b *bench) unchanged(name string, before string) {
	b.t.Helper()
	if b.all() != before {
		b.t.Fatalf("%s: the plate is changed", name)
	}
}

// again is the acceptor behind a crash that keeps nothing that is dirty.
func (b *bench) again() *bench {
	b.t.Helper()
	p := b.plate.Copy()
	is(b.t, "Crash", p.Crash(nil, -1, 0), api.OK)
	return open(b.t, p)
}

// P11.1: a new acceptor has promised nothing, and accepted nothing.
func TestNew(t *testing.T) {
	b := fresh(t, 20)
	b.has("new", 0)
	for _, from := range []int{math.MinInt, -1, 0, 1, 2, most, most + 1, math.MaxInt} {
		if votes := b.Votes(from); len(votes) != 0 {
			t.Errorf("Votes(%d):%s", from, short(votes))
		}
	}
	if len(b.shelf.Notes()) != 0 {
		t.Error("Open notes something")
	}
}

// P11.1, P11.2, P11.3: the chapter's example.
func TestExample(t *testing.T) {
	b := fresh(t, 40)
	b.prepare(5, 1)
	if ok, e := b.Accept(4, 1, cmd(1)); ok || e != api.OK {
		t.Fatal(ok, e)
	}
	b.accept(5, 1, 1)
	b.has("the example", 5, v(1, 5, 1))
}

// edges is ballots, and slots, at the edges of what is allowed, and of how
// many bytes they take.
func edges() []int {
	l := []int{1, 2, 127, 128, most - 1, most}
	for width := 8; width < 60; width += 8 {
		l = append(l, 1<<width-1, 1<<width, 1<<width+1)
	}
	slices.Sort(l)
	return slices.Compact(l)
}

// P11.2: a ballot just below what is promised is refused, just that one and
// one above are not.
func TestPrepareAtItsEdges(t *testing.T) {
	for _, ballot := range edges() {
		b := fresh(t, 40)
		b.prepare(ballot, 1)
		b.has("prepared", ballot)
		if ballot > 1 {
			b.refuses(ballot-1, 1)
			b.refuses(1, most)
		}
		b.prepare(ballot, most)
		b.has("prepared twice", ballot)
		b.again().has("prepared, and a crash", ballot)
		if ballot < most {
			b.prepare(ballot+1, 1)
			b.has("prepared above", ballot+1)
			b.refuses(ballot, 1)
			b.again().has("prepared above, and a crash", ballot+1)
		}
	}
}

// P11.3: so it is for Accept, which promises too.
func TestAcceptAtItsEdges(t *testing.T) {
	for _, ballot := range edges() {
		b := fresh(t, 60)
		b.accept(ballot, 1, 1)
		b.has("accepted", ballot, v(1, ballot, 1))
		if ballot > 1 {
			b.refuses(ballot-1, 1)
			b.refuses(ballot-1, 2)
			b.refuses(1, most)
		}
		b.accept(ballot, 1, 2)
		b.has("accepted twice", ballot, v(1, ballot, 2))
		b.again().has("accepted, and a crash", ballot, v(1, ballot, 2))
		if ballot < most {
			b.accept(ballot+1, most, 3)
			b.has("accepted above", ballot+1, v(1, ballot, 2), v(most, ballot+1, 3))
			b.refuses(ballot, 1)
			b.again().has("accepted above, and a crash", ballot+1, v(1, ballot, 2), v(most, ballot+1, 3))
		}
	}
}

// P11.2, P11.3: what was prepared is accepted, and the other way round.
func TestPrepareAndAcceptTogether(t *testing.T) {
	b := fresh(t, 60)
	b.prepare(10, 1)
	b.refuses(9, 1)
	b.accept(10, 3, 1)
	b.accept(11, 4, 2)
	b.refuses(10, 3)
	b.prepare(11, 1, v(3, 10, 1), v(4, 11, 2))
	b.prepare(12, 4, v(4, 11, 2))
	b.refuses(11, 4)
	b.accept(12, 3, 3)
	b.has("all", 12, v(3, 12, 3), v(4, 11, 2))
	b.prepare(12, 3, v(3, 12, 3), v(4, 11, 2))
	b.prepare(13, 5)
}

// P11.2, P11.3: ballots and slots that are not 1 to MaxNumber.
func TestWrongNumbers(t *testing.T) {
	b := fresh(t, 40)
	for range 2 {
		for _, n := range []int{0, -1, -5, math.MinInt, most + 1, most + 2, math.MaxInt} {
			for _, other := range []int{1, 5, most, 0, -1, most + 1} {
				b.wrong(n, other, api.ErrArg)
				b.wrong(other, n, api.ErrArg)
			}
		}
		b.accept(5, 1, 1) // and once more, where a ballot of 1 is refused
	}
	b.has("behind all", 5, v(1, 5, 1))
}

// wrongCommands is commands that may not be.
func wrongCommands() map[string]api.Cmd {
	return map[string]api.Cmd{
		"a kind below": {Kind: api.CmdNop - 1}, "a kind above": {Kind: api.CmdWidth + 1},
		"an ID below": {ID: -1}, "an ID above": {ID: most + 1},
		"a blob below": {Blob: -1}, "another one above": {Other: most + 1},
		"an index below": {Index: -1}, "a size above": {Size: most + 1},
		"a node below": {Node: -1}, "a node above": {Node: api.MaxNodes},
		"K": {Code: api.Code{K: api.MaxWidth + 1}}, "M": {Code: api.Code{M: -1}},
		"a long key": {Key: "123456789"}, "many nodes": {Nodes: make([]int, api.MaxWidth+1)},
		"nodes with one above": {Nodes: []int{0, api.MaxNodes}},
	}
}

// P11.3: they are an error also where the ballot would be refused.
func TestWrongCommands(t *testing.T) {
	b := fresh(t, 40)
	b.accept(5, 1, 1)
	before := b.all()
	for name, c := range wrongCommands() {
		for _, ballot := range []int{1, 5, 6} {
			if ok, e := b.Accept(ballot, 1, c); ok || e != api.ErrArg {
				t.Fatalf("%s: %v, error %d", name, ok, e)
			}
		}
	}
	b.unchanged("wrong commands", before)
	b.has("wrong commands", 5, v(1, 5, 1))
}

// P11.3: any command that may be is accepted, and told as it was.
func TestCommands(t *testing.T) {
	greatest := api.Cmd{
		ID: most, Kind: api.CmdWidth, Key: "\x00\xff345678", Blob: most, Other: most, Index: most, Node: api.MaxNodes - 1,
		Size: most, Sum: math.MaxUint32, Code: api.Code{K: api.MaxWidth, M: api.MaxWidth}, Nodes: make([]int, api.MaxWidth),
	}
	for i := range greatest.Nodes {
		greatest.Nodes[i] = api.MaxNodes - 1
	}
	for _, c := range []api.Cmd{{}, {Nodes: []int{}}, {Nodes: []int{0}}, cmd(4), greatest} {
		b := fresh(t, 100)
		for _, slot := range []int{1, most} {
			if ok, e := b.Accept(most, slot, c); !ok || e != api.OK {
				t.Fatalf("Accept: %v, error %d", ok, e)
			}
		}
		want := []api.Vote{{Slot: 1, Ballot: most, Cmd: c}, {Slot: most, Ballot: most, Cmd: c}}
		b.prepare(most, 1, want...)
		b.again().has("any command", most, want...)
	}
}

// P11.1, P11.2: votes of slots at from, and behind it, but not just below it;
// they rise, in whatever order they came.
func TestVotesFrom(t *testing.T) {
	b := fresh(t, 200)
	slots := []int{1, 2, 255, 256, 65535, 65536, most - 1, most}
	ballots := make([]int, len(slots))
	for i := range slots {
		at := (3*i + 5) % len(slots)
		ballots[at] = 10 + i
		b.accept(ballots[at], slots[at], at)
	}
	froms := []int{math.MinInt, -1, 0, 3, most + 1, math.MaxInt}
	for _, s := range slots {
		froms = append(froms, s-1, s, s+1)
	}
	for _, from := range froms {
		var want []api.Vote
		for i, s := range slots {
			if s >= from {
				want = append(want, v(s, ballots[i], i))
			}
		}
		if got := b.Votes(from); text(got) != text(want) {
			t.Fatalf("Votes(%d):%s, want%s", from, short(got), short(want))
		}
		if from >= 1 && from <= most {
			b.prepare(20, from, want...)
		}
	}
}

// P11.2, P11.3: the notes are the chapter's.
func TestNotes(t *testing.T) {
	noted := func(b *bench, n int, want string) {
		t.Helper()
		if got := string(b.shelf.Noted(n)); got != want {
			t.Fatalf("note %d: %x, want %x", n, got, want)
		}
	}
	b := fresh(t, 60)
	c := api.Cmd{ID: 300, Kind: 2, Key: "ab", Nodes: []int{0, 11}}
	bytes := "\x02\x01\x2c\x01\x02\x00\x00\x00\x00\x00\x00\x00\x00\x01\x02ab\x01\x02\x00\x01\x0b"
	b.prepare(300, 1)
	noted(b, 0, "\x02\x01\x2c")
	b.Accept(300, 9, c)
	noted(b, 0, "\x02\x01\x2c")
	noted(b, 9, "\x02\x01\x2c"+bytes)
	b.Accept(most, 9, c)
	noted(b, 0, "\x08\x10\x00\x00\x00\x00\x00\x00\x00")
	noted(b, 9, "\x08\x10\x00\x00\x00\x00\x00\x00\x00"+bytes)
	b.Accept(most, most, c)
	if got := b.shelf.Notes(); !slices.Equal(got, []int{0, 9, most}) {
		t.Errorf("notes %v", got)
	}
	b = fresh(t, 60)
	b.Accept(1, 1, c)
	noted(b, 0, "\x01\x01")
	noted(b, 1, "\x01\x01"+bytes)
}

// P11.2, P11.3, P11.5: behind a true nothing is dirty any more, whether there
// was something to note or not.
func TestSynced(t *testing.T) {
	b := fresh(t, 100)
	synced := func(name string) {
		t.Helper()
		if len(b.plate.Dirty()) > 0 {
			t.Fatalf("%s: %v are dirty", name, b.plate.Dirty())
		}
	}
	dirty := func(e api.Errno) {
		t.Helper()
		is(t, "shelf", e, api.OK)
		if len(b.plate.Dirty()) == 0 {
			t.Fatal("nothing is dirty")
		}
	}
	b.prepare(5, 1)
	synced("Prepare")
	b.accept(5, 1, 1)
	synced("Accept of a promised ballot")
	b.accept(6, 1, 2)
	synced("Accept")
	dirty(b.shelf.Store(1, 1, 1, []byte("a")))
	b.prepare(6, 1, v(1, 6, 2))
	synced("Prepare of a promised ballot")
	dirty(b.shelf.Store(1, 2, 1, []byte("a")))
	b.accept(6, 1, 2)
	synced("Accept of what is accepted")
	dirty(b.shelf.Note(0, []byte{1, 9}))
	b.prepare(9, 1, v(1, 6, 2))
	synced("Prepare of a ballot that is noted, but not synced")
	dirty(b.shelf.Note(0, []byte{1, 10}))
	b.accept(10, 1, 3)
	synced("Accept of a ballot that is noted, but not synced")
	b.again().has("a crash", 10, v(1, 10, 3))
}

// Shards and fences of the shelf play no part, and stay.
func TestBesideShards(t *testing.T) {
	b := fresh(t, 60)
	is(t, "Store", b.shelf.Store(0, 0, 0, []byte("shard")), api.OK)
	is(t, "Fence", b.shelf.Fence(1, 0, 7), api.OK)
	b.accept(5, 1, 1)
	b.prepare(6, 1, v(1, 5, 1))
	c := b.again()
	c.has("beside shards", 6, v(1, 5, 1))
	if got, e := c.shelf.Fetch(0, 0, 0); e != api.OK || string(got) != "shard" || c.shelf.Fenced(1, 0) != 7 || len(c.shelf.Held()) != 1 {
		t.Errorf("the shard is %q, error %d", got, e)
	}
}

// P11.1: shelves and acceptors that no call made.
func TestNil(t *testing.T) {
	for _, s := range []*shelf.Shelf{nil, {}} {
		if a, e := vote.Open(s); a != nil || e != api.ErrNil {
			t.Errorf("Open: error %d", e)
		}
	}
	for _, a := range []*vote.Acceptor{nil, {}} {
		for _, n := range []int{1, 5, most} {
			if ok, votes, e := a.Prepare(n, n); ok || len(votes) != 0 || e != api.ErrNil {
				t.Errorf("Prepare(%d): %v, error %d", n, ok, e)
			}
			if ok, e := a.Accept(n, n, cmd(1)); ok || e != api.ErrNil {
				t.Errorf("Accept(%d): %v, error %d", n, ok, e)
			}
			if votes := a.Votes(n); len(votes) != 0 {
				t.Errorf("Votes(%d):%s", n, short(votes))
			}
		}
		if n := a.Promised(); n != 0 {
			t.Errorf("promised %d", n)
		}
	}
}
