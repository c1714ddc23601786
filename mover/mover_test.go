package mover_test

import (
	"bytes"
	"fmt"
	"math"
	"reflect"
	"slices"
	"testing"

	"amphora/api"
	"amphora/mover"
	"amphora/stripe"
)

// whole is a blob's bytes.
func whole(size int) []byte {
	b := make([]byte, size)
	for i := range b {
		b[i] = byte(i*37 + 1)
	}
	return b
}

// on is the blob 7 of so many bytes, on the nodes from 1 on.
func on(k, m, size int) api.Blob {
	b := api.Blob{ID: 7, Size: size, Sum: 99, Code: api.Code{K: k, M: m}}
	for i := range k + m {
		b.Nodes = append(b.Nodes, i+1)
	}
	return b
}

// cut is a blob's shards.
func cut(t *testing.T, b api.Blob) [][]byte {
	t.Helper()
	shards, e := stripe.Cut(b.Code, whole(b.Size))
	if e != api.OK {
		t.Fatal(e)
	}
	return shards
}

// fetched is the answer that brings a shard of a blob.
func fetched(b api.Blob, i int, shard []byte) api.Msg {
	return api.Msg{Kind: api.MsgFetched, OK: true, Blob: b.ID, Index: i, From: b.Nodes[i], Bytes: bytes.Clone(shard)}
}

// fenced is the answer that a shard's node is fenced.
func fenced(b api.Blob, i int) api.Msg {
	return api.Msg{Kind: api.MsgFenced, OK: true, Blob: b.ID, Index: i, From: b.Nodes[i]}
}

// start is a mover to node 0.
func start(t *testing.T, b api.Blob, index int) *mover.Mover {
	t.Helper()
	m, e := mover.New(0, b, index)
	if e != api.OK || m == nil {
		t.Fatalf("New: %v, %v", m, e)
	}
	return m
}

// in is a mover in a phase, of the shard 1 of on(2, 1, 20), which it has by
// Have, is stored at epoch 4 and whose old holder is passed by.
func in(t *testing.T, phase int) *mover.Mover {
	t.Helper()
	m := start(t, on(2, 1, 20), 1)
	if phase > 1 {
		is(t, "Have", m.Have(cut(t, on(2, 1, 20))[1]), api.OK)
	}
	if phase > 2 {
		is(t, "Stored", m.Stored(4), api.OK)
	}
	if phase > 3 {
		is(t, "Skip", m.Skip(), api.OK)
	}
	phaseIs(t, m, phase)
	return m
}

func is(t *testing.T, what string, e, want api.Errno) {
	t.Helper()
	if e != want {
		t.Fatalf("%s: %v, want %v", what, e, want)
	}
}

func phaseIs(t *testing.T, m *mover.Mover, want int) {
	t.Helper()
	if m.Phase() != want {
		t.Fatalf("phase %d, want %d", m.Phase(), want)
	}
}

func shardIs(t *testing.T, m *mover.Mover, want []byte) {
	t.Helper()
	if !bytes.Equal(m.Shard(), want) {
		t.Fatalf("shard %x, want %x", m.Shard(), want)
	}
}

// hears has a mover hear messages that bring something.
func hears(t *testing.T, m *mover.Mover, msgs ...api.Msg) {
	t.Helper()
	for _, x := range msgs {
		if !m.On(x) {
			t.Fatalf("nothing came by %+v", x)
		}
	}
}

// ignores has a mover hear a message that brings nothing.
func ignores(t *testing.T, m *mover.Mover, x api.Msg) {
	t.Helper()
	before := look(m)
	if m.On(x) {
		t.Fatalf("something came by %+v", x)
	}
	if after := look(m); after != before {
		t.Fatalf("%+v: %s, was %s", x, after, before)
	}
}

// look is all that a mover tells.
func look(m *mover.Mover) string {
	return fmt.Sprintf("%d %+v %x %+v", m.Phase(), m.Asks(11), m.Shard(), m.Move())
}

// asksAre holds what a mover asks against messages.
func asksAre(t *testing.T, m *mover.Mover, epoch int, want ...api.Msg) {
	t.Helper()
	got := m.Asks(epoch)
	if len(got) != len(want) || len(want) > 0 && !reflect.DeepEqual(got, want) {
		t.Fatalf("asks %+v, want %+v", got, want)
	}
}

// fetch is the request for a shard.
func fetch(self int, b api.Blob, i, epoch int) api.Msg {
	return api.Msg{Kind: api.MsgFetch, From: self, To: b.Nodes[i], Blob: b.ID, Index: i, Epoch: epoch}
}

// Example 1 of the chapter.
func TestExample(t *testing.T) {
	b := on(1, 1, 3)
	m := start(t, b, 1)
	asksAre(t, m, 3, fetch(0, b, 0, 3), fetch(0, b, 1, 3))
	hears(t, m, fetched(b, 0, cut(t, b)[0]))
	phaseIs(t, m, 2)
	shardIs(t, m, cut(t, b)[1])
}

// The whole way of a shard.
func TestWay(t *testing.T) {
	b := on(2, 1, 20)
	shards := cut(t, b)
	m := start(t, b, 2)
	phaseIs(t, m, 1)
	shardIs(t, m, nil)
	hears(t, m, fetched(b, 1, shards[1]))
	phaseIs(t, m, 1)
	shardIs(t, m, nil)
	asksAre(t, m, 5, fetch(0, b, 0, 5), fetch(0, b, 2, 5))
	hears(t, m, fetched(b, 0, shards[0]))
	phaseIs(t, m, 2)
	shardIs(t, m, shards[2])
	asksAre(t, m, 5)
	is(t, "Stored", m.Stored(6), api.OK)
	phaseIs(t, m, 3)
	shardIs(t, m, shards[2])
	asksAre(t, m, 9, api.Msg{Kind: api.MsgFence, From: 0, To: 3, Blob: 7, Index: 2, Epoch: 7})
	hears(t, m, fenced(b, 2))
	phaseIs(t, m, 4)
	shardIs(t, m, shards[2])
	asksAre(t, m, 9)
	if m.Move() != (api.Move{Blob: 7, Index: 2, Node: 0}) {
		t.Fatalf("move %+v", m.Move())
	}
}

// P17.1: who may move a shard, of what blob.
func TestNew(t *testing.T) {
	type given struct {
		self  int
		blob  api.Blob
		index int
	}
	full := api.Blob{ID: 3, Code: api.Code{K: 14, M: 1}, Nodes: []int{1, 2, 3, 4, 5, 6, 7, 8, 9, 10, 11, 12, 13, 14, 15}}
	many := api.Blob{ID: 3, Code: api.Code{K: 14, M: 2}, Nodes: append([]int{0}, full.Nodes...)}
	for _, x := range []struct {
		name string
		as   func(g *given)
		want api.Errno
	}{
		{"as it is", func(g *given) {}, api.OK},
		{"self -1", func(g *given) { g.self = -1 }, api.ErrArg},
		{"self least", func(g *given) { g.self = math.MinInt }, api.ErrArg},
		{"self 15", func(g *given) { g.self = api.MaxNodes - 1 }, api.OK},
		{"self 16", func(g *given) { g.self = api.MaxNodes }, api.ErrArg},
		{"self greatest", func(g *given) { g.self = math.MaxInt }, api.ErrArg},
		{"self is the first one", func(g *given) { g.self = 1 }, api.ErrArg},
		{"self is the one", func(g *given) { g.self = 2 }, api.ErrArg},
		{"self is the last one", func(g *given) { g.self = 3 }, api.ErrArg},
		{"K 0", func(g *given) { g.blob.Code = api.Code{K: 0, M: 3} }, api.ErrArg},
		{"K below 0", func(g *given) { g.blob.Code = api.Code{K: -1, M: 4} }, api.ErrArg},
		{"M below 0", func(g *given) { g.blob.Code = api.Code{K: 4, M: -1} }, api.ErrArg},
		{"M 0", func(g *given) { g.blob.Code = api.Code{K: 3} }, api.OK},
		{"K 1", func(g *given) { g.blob.Code = api.Code{K: 1, M: 2} }, api.OK},
		{"too wide", func(g *given) { g.blob.Code = api.Code{K: 1, M: 255} }, api.ErrArg},
		{"huge code", func(g *given) { g.blob.Code = api.Code{K: math.MaxInt, M: math.MaxInt} }, api.ErrArg},
		{"sum wraps round", func(g *given) { g.blob.Code = api.Code{K: math.MaxInt, M: math.MinInt + 4} }, api.ErrArg},
		{"size below 0", func(g *given) { g.blob.Size = -1 }, api.ErrArg},
		{"size 0", func(g *given) { g.blob.Size = 0 }, api.OK},
		{"size greatest", func(g *given) { g.blob.Size = api.MaxBlob }, api.OK},
		{"size one more", func(g *given) { g.blob.Size = api.MaxBlob + 1 }, api.ErrArg},
		{"no nodes", func(g *given) { g.blob.Nodes = nil }, api.ErrArg},
		{"too few nodes", func(g *given) { g.blob.Nodes = []int{1, 2} }, api.ErrArg},
		{"too many nodes", func(g *given) { g.blob.Nodes = []int{1, 2, 3, 4} }, api.ErrArg},
		{"node twice", func(g *given) { g.blob.Nodes = []int{1, 2, 1} }, api.ErrArg},
		{"node thrice", func(g *given) { g.blob.Nodes = []int{5, 5, 5} }, api.ErrArg},
		{"node twice at the end", func(g *given) { g.blob.Nodes = []int{1, 3, 3} }, api.ErrArg},
		{"node -1", func(g *given) { g.blob.Nodes = []int{1, -1, 3} }, api.ErrArg},
		{"node 15", func(g *given) { g.blob.Nodes = []int{15, 1, 3} }, api.OK},
		{"node 16", func(g *given) { g.blob.Nodes = []int{1, 2, 16} }, api.ErrArg},
		{"index -1", func(g *given) { g.index = -1 }, api.ErrArg},
		{"index 0", func(g *given) { g.index = 0 }, api.OK},
		{"index last", func(g *given) { g.index = 2 }, api.OK},
		{"index one more", func(g *given) { g.index = 3 }, api.ErrArg},
		{"index least", func(g *given) { g.index = math.MinInt }, api.ErrArg},
		{"index greatest", func(g *given) { g.index = math.MaxInt }, api.ErrArg},
		{"ID below 0", func(g *given) { g.blob.ID = -5 }, api.OK},
		{"all other nodes", func(g *given) { g.blob = full; g.index = 14 }, api.OK},
		{"all nodes", func(g *given) { g.blob = many }, api.ErrArg},
		{"nodes without end", func(g *given) { g.blob.Nodes = make([]int, 1<<20) }, api.ErrArg},
	} {
		g := given{0, on(2, 1, 20), 1}
		x.as(&g)
		m, e := mover.New(g.self, g.blob, g.index)
		if e != x.want || (m != nil) != (e == api.OK) {
			t.Errorf("%s: %v, %v, want %v", x.name, m, e, x.want)
			continue
		}
		if e != api.OK {
			continue
		}
		if m.Phase() != 1 || m.Move() != (api.Move{Blob: g.blob.ID, Index: g.index, Node: g.self}) || len(m.Shard()) != 0 {
			t.Errorf("%s: %s", x.name, look(m))
		}
	}
}

// P17.2: what is asked in phase 1, of any epoch, while shards come.
func TestAsksForShards(t *testing.T) {
	b := on(3, 2, 50)
	b.Nodes = []int{9, 0, 15, 4, 2}
	shards := cut(t, b)
	for _, epoch := range []int{math.MinInt, -1, 0, 1, api.MaxNumber, math.MaxInt} {
		m, e := mover.New(7, b, 4)
		is(t, "New", e, api.OK)
		asksAre(t, m, epoch, fetch(7, b, 0, epoch), fetch(7, b, 1, epoch), fetch(7, b, 2, epoch), fetch(7, b, 3, epoch), fetch(7, b, 4, epoch))
		hears(t, m, fetched(b, 2, shards[2]))
		asksAre(t, m, epoch, fetch(7, b, 0, epoch), fetch(7, b, 1, epoch), fetch(7, b, 3, epoch), fetch(7, b, 4, epoch))
		hears(t, m, fetched(b, 0, shards[0]))
		asksAre(t, m, epoch, fetch(7, b, 1, epoch), fetch(7, b, 3, epoch), fetch(7, b, 4, epoch))
		hears(t, m, fetched(b, 3, shards[3]))
		asksAre(t, m, epoch)
		is(t, "Stored", m.Stored(0), api.OK)
		asksAre(t, m, epoch, api.Msg{Kind: api.MsgFence, From: 7, To: 2, Blob: 7, Index: 4, Epoch: 1})
		is(t, "Skip", m.Skip(), api.OK)
		asksAre(t, m, epoch)
	}
}

// almost is messages that are as one is but for one thing.
func almost(x api.Msg) map[string]api.Msg {
	all := map[string]api.Msg{}
	but := func(name string, change func(x *api.Msg)) {
		other := x
		other.Bytes = bytes.Clone(x.Bytes)
		change(&other)
		all[name] = other
	}
	but("not OK", func(x *api.Msg) { x.OK = false })
	but("another blob", func(x *api.Msg) { x.Blob++ })
	but("no blob", func(x *api.Msg) { x.Blob = 0 })
	but("blob below", func(x *api.Msg) { x.Blob = -x.Blob })
	but("the index ahead", func(x *api.Msg) { x.Index-- })
	but("the next index", func(x *api.Msg) { x.Index++ })
	but("index below 0", func(x *api.Msg) { x.Index = -1 })
	but("index too great", func(x *api.Msg) { x.Index = 3 })
	but("index least", func(x *api.Msg) { x.Index = math.MinInt })
	but("index greatest", func(x *api.Msg) { x.Index = math.MaxInt })
	but("the node ahead", func(x *api.Msg) { x.From-- })
	but("the next node", func(x *api.Msg) { x.From++ })
	but("the mover's node", func(x *api.Msg) { x.From = 0 })
	but("no node", func(x *api.Msg) { x.From = -1 })
	for kind := -1; kind <= api.MsgFenced+1; kind++ {
		if kind != x.Kind {
			but(fmt.Sprint("kind ", kind), func(x *api.Msg) { x.Kind = kind })
		}
	}
	return all
}

// P17.2: in phase 1 a message that is as asked but for one thing brings
// nothing; a length that is another one is such a thing too.
func TestAlmostFetched(t *testing.T) {
	b := on(2, 1, 20)
	shards := cut(t, b)
	wrong := almost(fetched(b, 1, shards[1]))
	for name, size := range map[string]int{"no bytes": 0, "too few": 15, "one stripe": 8, "too many": 17, "more": 24} {
		x := fetched(b, 1, shards[1])
		x.Bytes = make([]byte, size)
		wrong[name] = x
	}
	for _, came := range []int{-1, 0, 2} {
		for _, index := range []int{0, 1, 2} {
			if came == index {
				continue
			}
			m := start(t, b, index)
			if came >= 0 {
				hears(t, m, fetched(b, came, shards[came]))
			}
			for _, x := range wrong {
				ignores(t, m, x)
			}
			hears(t, m, fetched(b, 1, shards[1]))
		}
	}
}

// P17.2: fields that the chapter does not name play no part.
func TestOtherFieldsPlayNoPart(t *testing.T) {
	b := on(2, 1, 20)
	m, x := start(t, b, 1), fetched(b, 1, cut(t, b)[1])
	more := func(x *api.Msg) {
		x.To, x.Ballot, x.Slot, x.Epoch, x.ID = 9, 8, 7, -6, 5
		x.Cmd, x.Votes = api.Cmd{ID: 4, Nodes: []int{3}}, []api.Vote{{Slot: 2}}
	}
	more(&x)
	hears(t, m, x)
	is(t, "Stored", m.Stored(0), api.OK)
	x = fenced(b, 1)
	more(&x)
	x.Bytes = []byte("any")
	hears(t, m, x)
	phaseIs(t, m, 4)
}

// P17.2: an empty blob's shards have bytes too, of noughts.
func TestEmptyBlob(t *testing.T) {
	b := on(1, 2, 0)
	m := start(t, b, 2)
	ignores(t, m, fetched(b, 0, nil))
	hears(t, m, fetched(b, 0, make([]byte, 8)))
	shardIs(t, m, make([]byte, 8))
}

// P17.2: of a shard that comes twice the first one counts.
func TestShardTwice(t *testing.T) {
	b := on(2, 1, 20)
	shards := cut(t, b)
	m := start(t, b, 2)
	hears(t, m, fetched(b, 0, shards[0]))
	ignores(t, m, fetched(b, 0, shards[0]))
	ignores(t, m, fetched(b, 0, shards[1]))
	hears(t, m, fetched(b, 1, shards[1]))
	shardIs(t, m, shards[2])
	for i := range shards {
		ignores(t, m, fetched(b, i, shards[i]))
	}
}

// P17.2: the shard itself is enough alone, and is taken as it comes, whatever
// came ahead of it.
func TestShardItself(t *testing.T) {
	for _, k := range []int{1, 2, 3, 5} {
		b := on(k, 2, 100)
		shards := cut(t, b)
		other := bytes.Repeat([]byte{0x5a}, len(shards[0]))
		for came := range k { // with the one itself K may be there: it counts all the same
			m := start(t, b, k)
			for i := range came {
				hears(t, m, fetched(b, i, shards[i]))
			}
			hears(t, m, fetched(b, k, other))
			phaseIs(t, m, 2)
			shardIs(t, m, other)
		}
	}
}

// orders tells all orders in which so many of a count may come.
func orders(of, count int, tell func(order []int)) {
	var goOn func(order []int)
	goOn = func(order []int) {
		if len(order) == count {
			tell(order)
			return
		}
		for i := range of {
			if !slices.Contains(order, i) {
				goOn(append(slices.Clone(order), i))
			}
		}
	}
	goOn(nil)
}

// P17.2, P17.4: any shards of one blob, in any order: the mover's shard is the
// blob's as soon as K came, or it itself, and not ahead of that.
func TestAnyOrder(t *testing.T) {
	for _, c := range []api.Code{{K: 1}, {K: 1, M: 1}, {K: 1, M: 3}, {K: 2}, {K: 2, M: 1}, {K: 2, M: 3}, {K: 3}, {K: 3, M: 2}, {K: 4, M: 1}} {
		b := on(c.K, c.M, 61)
		shards := cut(t, b)
		for index := range shards {
			orders(len(shards), c.K, func(order []int) {
				m := start(t, b, index)
				for n, i := range order {
					hears(t, m, fetched(b, i, shards[i]))
					if i == index || n+1 == c.K {
						break
					}
					phaseIs(t, m, 1)
					shardIs(t, m, nil)
				}
				phaseIs(t, m, 2)
				shardIs(t, m, shards[index])
			})
		}
	}
}

// P17.4: blobs of all sizes, a code that is as wide as may be.
func TestAnySize(t *testing.T) {
	for size := 0; size <= api.MaxBlob; size += 23 {
		b := on(9, 6, size)
		shards := cut(t, b)
		m := start(t, b, 3)
		for i := 6; i < 15; i++ {
			phaseIs(t, m, 1)
			hears(t, m, fetched(b, i, shards[i]))
		}
		shardIs(t, m, shards[3])
	}
}

// P17.3: Have in each phase, with as many bytes, one less, one more.
func TestHave(t *testing.T) {
	shard := bytes.Repeat([]byte{7}, 16)
	for phase := 1; phase <= 4; phase++ {
		for _, size := range []int{0, 8, 15, 17, 24} {
			refuses(t, in(t, phase), fmt.Sprint("Have of ", size), func(m *mover.Mover) api.Errno { return m.Have(make([]byte, size)) })
		}
		if phase > 1 {
			refuses(t, in(t, phase), "Have", func(m *mover.Mover) api.Errno { return m.Have(shard) })
		}
	}
	m := in(t, 1)
	hears(t, m, fetched(on(2, 1, 20), 0, make([]byte, 16)))
	is(t, "Have", m.Have(shard), api.OK)
	phaseIs(t, m, 2)
	shardIs(t, m, shard)
	asksAre(t, m, 3)
}

// refuses has a call be refused, and change nothing.
func refuses(t *testing.T, m *mover.Mover, what string, call func(m *mover.Mover) api.Errno) {
	t.Helper()
	before := look(m)
	is(t, what, call(m), api.ErrArg)
	if after := look(m); after != before {
		t.Fatalf("%s: %s, was %s", what, after, before)
	}
}

// P17.3: Stored in each phase, of any epoch.
func TestStored(t *testing.T) {
	for _, epoch := range []int{math.MinInt, -1, 0, 1, 4, api.MaxNumber - 1, api.MaxNumber, api.MaxNumber + 1, math.MaxInt} {
		stored := func(m *mover.Mover) api.Errno { return m.Stored(epoch) }
		for _, phase := range []int{1, 3, 4} {
			refuses(t, in(t, phase), fmt.Sprintf("Stored(%d) in phase %d", epoch, phase), stored)
		}
		m := in(t, 2)
		if epoch < 0 || epoch > api.MaxNumber-1 {
			refuses(t, m, fmt.Sprintf("Stored(%d)", epoch), stored)
			is(t, "Stored, but of an epoch that may be", m.Stored(4), api.OK)
			continue
		}
		is(t, "Stored", m.Stored(epoch), api.OK)
		phaseIs(t, m, 3)
		asksAre(t, m, 77, api.Msg{Kind: api.MsgFence, From: 0, To: 2, Blob: 7, Index: 1, Epoch: epoch + 1})
	}
}

// P17.3: Skip in each phase.
func TestSkip(t *testing.T) {
	for _, phase := range []int{1, 2, 4} {
		refuses(t, in(t, phase), fmt.Sprint("Skip in phase ", phase), (*mover.Mover).Skip)
	}
	m := in(t, 3)
	is(t, "Skip", m.Skip(), api.OK)
	phaseIs(t, m, 4)
	shardIs(t, m, cut(t, on(2, 1, 20))[1])
}

// P17.2: MsgFenced counts in phase 3 alone, and only if it is as asked.
func TestFenced(t *testing.T) {
	x := fenced(on(2, 1, 20), 1)
	for _, phase := range []int{1, 2, 4} {
		ignores(t, in(t, phase), x)
	}
	m := in(t, 3)
	for _, wrong := range almost(x) {
		ignores(t, m, wrong)
	}
	for i := range 3 {
		if i != 1 {
			ignores(t, m, fenced(on(2, 1, 20), i))
		}
	}
	hears(t, m, x)
	phaseIs(t, m, 4)
	ignores(t, m, x)
}

// P17.2: MsgFetched counts in phase 1 alone.
func TestFetchedLate(t *testing.T) {
	b := on(2, 1, 20)
	for phase := 2; phase <= 4; phase++ {
		m := in(t, phase)
		for i, shard := range cut(t, b) {
			ignores(t, m, fetched(b, i, shard))
			ignores(t, m, fetched(b, i, make([]byte, 16)))
		}
	}
}

// Movers that no call made.
func TestNil(t *testing.T) {
	for _, m := range []*mover.Mover{nil, {}} {
		for range 2 {
			if m.Phase() != 0 || len(m.Asks(1)) != 0 || len(m.Shard()) != 0 || m.Move() != (api.Move{}) {
				t.Error("a mover that no call made tells something")
			}
			if m.On(fetched(on(1, 0, 0), 0, make([]byte, 8))) || m.On(api.Msg{}) || m.On(api.Msg{Kind: api.MsgFenced, OK: true}) {
				t.Error("a mover that no call made hears something")
			}
			for _, size := range []int{0, 8} {
				is(t, "Have", m.Have(make([]byte, size)), api.ErrNil)
			}
			for _, epoch := range []int{-1, 0, api.MaxNumber} {
				is(t, "Stored", m.Stored(epoch), api.ErrNil)
			}
			is(t, "Skip", m.Skip(), api.ErrNil)
		}
	}
}
