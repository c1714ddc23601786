package recode_test

import (
	"bytes"
	"fmt"
	"math"
	"reflect"
	"slices"
	"testing"

	"amphora/api"
	"amphora/frame"
	"amphora/recode"
	"amphora/stripe"
)

// whole is a blob's bytes.
func whole(size int) []byte {
	b := make([]byte, size)
	for i := range b {
		b[i] = byte(i*37 + 1)
	}
	return b
}

// from is so many nodes, from one on.
func from(first, count int) []int {
	var nodes []int
	for i := range count {
		nodes = append(nodes, first+i)
	}
	return nodes
}

// blobOf is the blob 7 of so many bytes, on the nodes from 1 on.
func blobOf(k, m, size int) api.Blob {
	return api.Blob{ID: 7, Size: size, Sum: frame.Sum(whole(size)), Code: api.Code{K: k, M: m}, Nodes: from(1, k+m)}
}

// toBe is the recode of blob 7 to 9, on the nodes from 4 on.
func toBe(k, m int) api.Recode {
	return api.Recode{Blob: 7, Other: 9, Code: api.Code{K: k, M: m}, Nodes: from(4, k+m)}
}

// cut is the shards of so many bytes.
func cut(t *testing.T, c api.Code, size int) [][]byte {
	t.Helper()
	shards, e := stripe.Cut(c, whole(size))
	if e != api.OK {
		t.Fatal(e)
	}
	return shards
}

// fetched is the answer that brings a shard of a blob.
func fetched(b api.Blob, i int, shard []byte) api.Msg {
	return api.Msg{Kind: api.MsgFetched, OK: true, Blob: b.ID, Index: i, From: b.Nodes[i], Bytes: bytes.Clone(shard)}
}

// stored is the answer that a shard of the other blob is stored.
func stored(r api.Recode, i int) api.Msg {
	return api.Msg{Kind: api.MsgStored, OK: true, Blob: r.Other, Index: i, From: r.Nodes[i]}
}

// start is a recoder at node 0.
func start(t *testing.T, b api.Blob, r api.Recode) *recode.Recoder {
	t.Helper()
	x, e := recode.New(0, b, r)
	if e != api.OK || x == nil {
		t.Fatalf("New: %v, %v", x, e)
	}
	return x
}

// in is a recoder in a phase, of blobOf(2, 1, 20) to toBe(3, 1).
func in(t *testing.T, phase int) *recode.Recoder {
	t.Helper()
	b, r := blobOf(2, 1, 20), toBe(3, 1)
	x := start(t, b, r)
	for i, shard := range cut(t, b.Code, b.Size)[:2] {
		if phase > 1 {
			hears(t, x, fetched(b, i, shard))
		}
	}
	for i := range r.Nodes {
		if phase > 2 {
			hears(t, x, stored(r, i))
		}
	}
	phaseIs(t, x, phase)
	return x
}

func phaseIs(t *testing.T, x *recode.Recoder, want int) {
	t.Helper()
	if x.Phase() != want {
		t.Fatalf("phase %d, want %d", x.Phase(), want)
	}
}

// hears has a recoder hear messages that bring something.
func hears(t *testing.T, r *recode.Recoder, msgs ...api.Msg) {
	t.Helper()
	for _, x := range msgs {
		if !r.On(x) {
			t.Fatalf("nothing came by %+v", x)
		}
	}
}

// ignores has a recoder hear messages that bring nothing.
func ignores(t *testing.T, r *recode.Recoder, msgs ...api.Msg) {
	t.Helper()
	for _, x := range msgs {
		before := look(r)
		if r.On(x) {
			t.Fatalf("something came by %+v", x)
		}
		if after := look(r); after != before {
			t.Fatalf("%+v: %s, was %s", x, after, before)
		}
	}
}

// look is all that a recoder tells.
func look(r *recode.Recoder) string {
	return fmt.Sprintf("%d %+v %+v", r.Phase(), r.Asks(11), r.Recode())
}

// asksAre holds what a recoder asks against messages.
func asksAre(t *testing.T, r *recode.Recoder, epoch int, want ...api.Msg) {
	t.Helper()
	got := r.Asks(epoch)
	if len(got) != len(want) || len(want) > 0 && !reflect.DeepEqual(got, want) {
		t.Fatalf("asks %+v, want %+v", got, want)
	}
}

// fetch is the requests for some shards.
func fetch(self int, b api.Blob, epoch int, places ...int) []api.Msg {
	var asks []api.Msg
	for _, i := range places {
		asks = append(asks, api.Msg{Kind: api.MsgFetch, From: self, To: b.Nodes[i], Blob: b.ID, Index: i, Epoch: epoch})
	}
	return asks
}

// store is the requests to store some shards.
func store(self int, r api.Recode, shards [][]byte, epoch int, places ...int) []api.Msg {
	var asks []api.Msg
	for _, i := range places {
		asks = append(asks, api.Msg{Kind: api.MsgStore, From: self, To: r.Nodes[i], Blob: r.Other, Index: i, Epoch: epoch, Bytes: shards[i]})
	}
	return asks
}

// Example 1 of the chapter.
func TestExample(t *testing.T) {
	b, r := blobOf(1, 0, 5), toBe(2, 1)
	x := start(t, b, r)
	asksAre(t, x, 3, fetch(0, b, 3, 0)...)
	hears(t, x, fetched(b, 0, cut(t, b.Code, 5)[0]))
	phaseIs(t, x, 2)
	asksAre(t, x, 4, store(0, r, cut(t, r.Code, 5), 4, 0, 1, 2)...)
}

// P18.1: who may recode what blob, to which other one.
func TestNew(t *testing.T) {
	type given struct {
		self int
		blob api.Blob
		to   api.Recode
	}
	all := from(0, api.MaxNodes)
	for _, x := range []struct {
		name string
		as   func(g *given)
		want api.Errno
	}{
		{"as it is", func(g *given) {}, api.OK},
		{"self -1", func(g *given) { g.self = -1 }, api.ErrArg},
		{"self least", func(g *given) { g.self = math.MinInt }, api.ErrArg},
		{"self 15", func(g *given) { g.self = api.MaxNodes - 1 }, api.OK},
		{"self 16", func(g *given) { g.self = api.MaxNodes }, api.ErrArg},
		{"self greatest", func(g *given) { g.self = math.MaxInt }, api.ErrArg},
		{"self is one of the blob's", func(g *given) { g.self = 2 }, api.OK},
		{"self is one of the other's", func(g *given) { g.self = 5 }, api.OK},
		{"K 0", func(g *given) { g.blob.Code = api.Code{K: 0, M: 3} }, api.ErrArg},
		{"K below 0", func(g *given) { g.blob.Code = api.Code{K: -1, M: 4} }, api.ErrArg},
		{"M below 0", func(g *given) { g.blob.Code = api.Code{K: 4, M: -1} }, api.ErrArg},
		{"M 0", func(g *given) { g.blob.Code = api.Code{K: 3} }, api.OK},
		{"K 1", func(g *given) { g.blob.Code = api.Code{K: 1, M: 2} }, api.OK},
		{"too wide", func(g *given) { g.blob.Code = api.Code{K: 1, M: 255} }, api.ErrArg},
		{"sum wraps round", func(g *given) { g.blob.Code = api.Code{K: math.MaxInt, M: math.MinInt + 4} }, api.ErrArg},
		{"other K 0", func(g *given) { g.to.Code = api.Code{K: 0, M: 4} }, api.ErrArg},
		{"other K below 0", func(g *given) { g.to.Code = api.Code{K: -1, M: 5} }, api.ErrArg},
		{"other M below 0", func(g *given) { g.to.Code = api.Code{K: 5, M: -1} }, api.ErrArg},
		{"other M 0", func(g *given) { g.to.Code = api.Code{K: 4} }, api.OK},
		{"other K 1", func(g *given) { g.to.Code = api.Code{K: 1, M: 3} }, api.OK},
		{"other too wide", func(g *given) { g.to.Code = api.Code{K: 1, M: 255} }, api.ErrArg},
		{"other sum wraps round", func(g *given) { g.to.Code = api.Code{K: math.MaxInt, M: math.MinInt + 5} }, api.ErrArg},
		{"the same code and nodes", func(g *given) { g.to.Code, g.to.Nodes = g.blob.Code, g.blob.Nodes }, api.OK},
		{"size below 0", func(g *given) { g.blob.Size = -1 }, api.ErrArg},
		{"size 0", func(g *given) { g.blob.Size = 0 }, api.OK},
		{"size greatest", func(g *given) { g.blob.Size = api.MaxBlob }, api.OK},
		{"size one more", func(g *given) { g.blob.Size = api.MaxBlob + 1 }, api.ErrArg},
		{"no nodes", func(g *given) { g.blob.Nodes = nil }, api.ErrArg},
		{"too few nodes", func(g *given) { g.blob.Nodes = []int{1, 2} }, api.ErrArg},
		{"too many nodes", func(g *given) { g.blob.Nodes = []int{1, 2, 3, 4} }, api.ErrArg},
		{"node twice", func(g *given) { g.blob.Nodes = []int{1, 2, 1} }, api.ErrArg},
		{"node -1", func(g *given) { g.blob.Nodes = []int{1, -1, 3} }, api.ErrArg},
		{"node 15", func(g *given) { g.blob.Nodes = []int{15, 0, 3} }, api.OK},
		{"node 16", func(g *given) { g.blob.Nodes = []int{1, 2, 16} }, api.ErrArg},
		{"other: no nodes", func(g *given) { g.to.Nodes = nil }, api.ErrArg},
		{"other: too few nodes", func(g *given) { g.to.Nodes = []int{4, 5, 6} }, api.ErrArg},
		{"other: too many nodes", func(g *given) { g.to.Nodes = []int{4, 5, 6, 7, 8} }, api.ErrArg},
		{"other: node twice", func(g *given) { g.to.Nodes = []int{4, 5, 6, 6} }, api.ErrArg},
		{"other: node -1", func(g *given) { g.to.Nodes = []int{-1, 5, 6, 7} }, api.ErrArg},
		{"other: node 15", func(g *given) { g.to.Nodes = []int{0, 15, 6, 7} }, api.OK},
		{"other: node 16", func(g *given) { g.to.Nodes = []int{4, 16, 6, 7} }, api.ErrArg},
		{"all nodes", func(g *given) { g.to.Nodes, g.to.Code = all, api.Code{K: 10, M: 6} }, api.OK},
		{"nodes without end", func(g *given) { g.to.Nodes = make([]int, 1<<20) }, api.ErrArg},
		{"another blob", func(g *given) { g.to.Blob = 8 }, api.ErrArg},
		{"no blob", func(g *given) { g.to.Blob = 0 }, api.ErrArg},
		{"blob 0", func(g *given) { g.to.Blob, g.blob.ID = 0, 0 }, api.OK},
		{"to itself", func(g *given) { g.to.Other = 7 }, api.OK},
		{"another sum", func(g *given) { g.blob.Sum = 1 }, api.OK},
	} {
		g := given{0, blobOf(2, 1, 20), toBe(3, 1)}
		x.as(&g)
		r, e := recode.New(g.self, g.blob, g.to)
		if e != x.want || (r != nil) != (e == api.OK) {
			t.Errorf("%s: %v, %v, want %v", x.name, r, e, x.want)
			continue
		}
		if e == api.OK && (r.Phase() != 1 || !reflect.DeepEqual(r.Recode(), g.to)) {
			t.Errorf("%s: %s", x.name, look(r))
		}
	}
}

// P18.2: what is asked in each phase, of any epoch, while shards come and are
// stored.
func TestAsks(t *testing.T) {
	b, to := blobOf(3, 2, 50), toBe(2, 1)
	b.Nodes, to.Nodes = []int{9, 0, 15, 4, 2}, []int{4, 12, 0}
	shards, others := cut(t, b.Code, 50), cut(t, to.Code, 50)
	for _, epoch := range []int{math.MinInt, -1, 0, 1, api.MaxNumber, math.MaxInt} {
		r, e := recode.New(7, b, to)
		if e != api.OK {
			t.Fatal(e)
		}
		asksAre(t, r, epoch, fetch(7, b, epoch, 0, 1, 2, 3, 4)...)
		hears(t, r, fetched(b, 2, shards[2]))
		asksAre(t, r, epoch, fetch(7, b, epoch, 0, 1, 3, 4)...)
		hears(t, r, fetched(b, 4, shards[4]))
		asksAre(t, r, epoch, fetch(7, b, epoch, 0, 1, 3)...)
		hears(t, r, fetched(b, 1, shards[1]))
		asksAre(t, r, epoch, store(7, to, others, epoch, 0, 1, 2)...)
		hears(t, r, stored(to, 1))
		asksAre(t, r, epoch, store(7, to, others, epoch, 0, 2)...)
		hears(t, r, stored(to, 0))
		asksAre(t, r, epoch, store(7, to, others, epoch, 2)...)
		phaseIs(t, r, 2)
		hears(t, r, stored(to, 2))
		asksAre(t, r, epoch)
		phaseIs(t, r, 3)
	}
}

// almost is messages that are as one is but for one thing.
func almost(x api.Msg) []api.Msg {
	var all []api.Msg
	but := func(change func(x *api.Msg)) {
		other := x
		other.Bytes = bytes.Clone(x.Bytes)
		change(&other)
		all = append(all, other)
	}
	but(func(x *api.Msg) { x.OK = false })
	but(func(x *api.Msg) { x.Blob++ })
	but(func(x *api.Msg) { x.Blob = 0 })
	but(func(x *api.Msg) { x.Blob = 7 + 9 - x.Blob }) // the other one of both
	but(func(x *api.Msg) { x.From++ })
	but(func(x *api.Msg) { x.From-- })
	but(func(x *api.Msg) { x.From = 0 })
	but(func(x *api.Msg) { x.From = -1 })
	for _, index := range []int{x.Index - 1, x.Index + 1, -1, 3, 4, math.MinInt, math.MaxInt} {
		if index != x.Index {
			but(func(x *api.Msg) { x.Index = index })
		}
	}
	for kind := -1; kind <= api.MsgFenced+1; kind++ {
		if kind != x.Kind {
			but(func(x *api.Msg) { x.Kind = kind })
		}
	}
	return all
}

// P18.2: in phase 1 a message that is as asked but for one thing brings
// nothing; a length that is another one is such a thing too.
func TestAlmostFetched(t *testing.T) {
	b, to := blobOf(2, 1, 20), toBe(3, 1)
	shards := cut(t, b.Code, 20)
	wrong := almost(fetched(b, 1, shards[1]))
	for _, size := range []int{0, 8, 15, 17, 24} {
		wrong = append(wrong, fetched(b, 1, make([]byte, size)))
	}
	for _, came := range []int{-1, 0, 2} {
		r := start(t, b, to)
		if came >= 0 {
			hears(t, r, fetched(b, came, shards[came]))
		}
		ignores(t, r, wrong...)
		hears(t, r, fetched(b, 1, shards[1]))
	}
}

// P18.2: in phase 2 likewise.
func TestAlmostStored(t *testing.T) {
	to := toBe(3, 1)
	for place := range to.Nodes {
		r := in(t, 2)
		ignores(t, r, almost(stored(to, place))...)
		hears(t, r, stored(to, place))
		ignores(t, r, almost(stored(to, place))...)
	}
}

// P18.2: each message counts in its own phase alone.
func TestOtherPhases(t *testing.T) {
	b, to := blobOf(2, 1, 20), toBe(3, 1)
	for i, shard := range cut(t, b.Code, 20) {
		ignores(t, in(t, 2), fetched(b, i, shard))
		ignores(t, in(t, 3), fetched(b, i, shard), fetched(b, i, make([]byte, 16)))
	}
	for i := range to.Nodes {
		ignores(t, in(t, 1), stored(to, i))
		ignores(t, in(t, 3), stored(to, i))
	}
}

// P18.2: fields that the chapter does not name play no part.
func TestOtherFieldsPlayNoPart(t *testing.T) {
	b, to := blobOf(1, 1, 20), toBe(1, 0)
	more := func(x api.Msg) api.Msg {
		x.To, x.Ballot, x.Slot, x.Epoch, x.ID = 9, 8, 7, -6, 5
		x.Cmd, x.Votes = api.Cmd{ID: 4, Nodes: []int{3}}, []api.Vote{{Slot: 2}}
		return x
	}
	r := start(t, b, to)
	hears(t, r, more(fetched(b, 1, cut(t, b.Code, 20)[1])))
	done := more(stored(to, 0))
	done.Bytes = []byte("any")
	hears(t, r, done)
	phaseIs(t, r, 3)
}

// P18.2: of a shard that comes twice the first one counts.
func TestShardTwice(t *testing.T) {
	b, to := blobOf(2, 1, 20), toBe(3, 1)
	shards := cut(t, b.Code, 20)
	r := start(t, b, to)
	hears(t, r, fetched(b, 2, shards[2]))
	ignores(t, r, fetched(b, 2, shards[2]), fetched(b, 2, shards[0]))
	hears(t, r, fetched(b, 0, shards[0]))
	asksAre(t, r, 1, store(0, to, cut(t, to.Code, 20), 1, 0, 1, 2, 3)...)
}

// P18.2: a shard that is stored is stored once, and one that is refused may be
// stored later.
func TestStoredTwice(t *testing.T) {
	to := toBe(3, 1)
	r, others := in(t, 2), cut(t, to.Code, 20)
	refused := stored(to, 2)
	refused.OK = false
	ignores(t, r, refused)
	hears(t, r, stored(to, 2))
	ignores(t, r, stored(to, 2), refused)
	asksAre(t, r, 5, store(0, to, others, 5, 0, 1, 3)...)
	hears(t, r, stored(to, 0), stored(to, 3))
	ignores(t, r, stored(to, 0), stored(to, 2), stored(to, 3))
	phaseIs(t, r, 2)
	hears(t, r, stored(to, 1))
	phaseIs(t, r, 3)
}

// P18.2: if what came is another blob, all is forgotten, as often as it is so;
// the right shards do all the same.
func TestAnotherSum(t *testing.T) {
	b, to := blobOf(2, 1, 20), toBe(3, 1)
	shards := cut(t, b.Code, 20)
	wrong := bytes.Clone(shards[0])
	wrong[3] ^= 1
	r := start(t, b, to)
	for range 3 {
		hears(t, r, fetched(b, 0, wrong))
		asksAre(t, r, 5, fetch(0, b, 5, 1, 2)...)
		ignores(t, r, fetched(b, 0, shards[0]))
		hears(t, r, fetched(b, 2, shards[2]))
		phaseIs(t, r, 1)
		asksAre(t, r, 6, fetch(0, b, 6, 0, 1, 2)...)
	}
	hears(t, r, fetched(b, 2, shards[2]))
	asksAre(t, r, 6, fetch(0, b, 6, 0, 1)...)
	hears(t, r, fetched(b, 0, shards[0]))
	asksAre(t, r, 7, store(0, to, cut(t, to.Code, 20), 7, 0, 1, 2, 3)...)
}

// P18.2: of a blob with a wrong Sum none is ever right, even if K is 1.
func TestNoSumEver(t *testing.T) {
	b, to := blobOf(1, 2, 20), toBe(3, 1)
	b.Sum ^= 1 << 31
	r := start(t, b, to)
	for i, shard := range cut(t, b.Code, 20) {
		hears(t, r, fetched(b, i, shard))
		phaseIs(t, r, 1)
		asksAre(t, r, 6, fetch(0, b, 6, 0, 1, 2)...)
	}
}

// P18.2: the sum is that of the blob's bytes alone: what stands behind its end
// in a shard plays no part, and comes in no other shard.
func TestBehindTheEnd(t *testing.T) {
	b, to := blobOf(1, 0, 5), toBe(2, 1)
	shard := cut(t, b.Code, 5)[0]
	shard[7] = 1
	r := start(t, b, to)
	hears(t, r, fetched(b, 0, shard))
	asksAre(t, r, 1, store(0, to, cut(t, to.Code, 5), 1, 0, 1, 2)...)
}

// An empty blob is recoded too.
func TestEmptyBlob(t *testing.T) {
	b, to := blobOf(1, 1, 0), toBe(2, 2)
	r := start(t, b, to)
	ignores(t, r, fetched(b, 1, nil))
	hears(t, r, fetched(b, 1, make([]byte, 8)))
	noughts := make([]byte, 8)
	asksAre(t, r, 1, store(0, to, [][]byte{noughts, noughts, noughts, noughts}, 1, 0, 1, 2, 3)...)
}

// The blob and the other one on the same nodes, of the same number: each
// answer counts by its kind.
func TestSameNodes(t *testing.T) {
	b := blobOf(2, 1, 20)
	to := api.Recode{Blob: 7, Other: 7, Code: api.Code{K: 1, M: 2}, Nodes: b.Nodes}
	r := start(t, b, to)
	shards := cut(t, b.Code, 20)
	ignores(t, r, stored(to, 0))
	hears(t, r, fetched(b, 1, shards[1]), fetched(b, 2, shards[2]))
	asksAre(t, r, 2, store(0, to, cut(t, to.Code, 20), 2, 0, 1, 2)...)
	ignores(t, r, fetched(b, 0, shards[0]))
	hears(t, r, stored(to, 2), stored(to, 0), stored(to, 1))
	phaseIs(t, r, 3)
}

// orders tells all orders in which so many of a count may come.
func orders(of, count int, tell func(order []int)) {
	var goOn func(order []int)
	goOn = func(order []int) {
		if len(order) == count {
			tell(order)
			return
		}
		for i := range of {
			if !slices.Contains(order, i) {
				goOn(append(slices.Clone(order), i))
			}
		}
	}
	goOn(nil)
}

// P18.2, P18.3: of any K shards, in any order, what is stored are the shards
// of the blob by the other code; and any order of answers ends it.
func TestAnyOrder(t *testing.T) {
	codes := []api.Code{{K: 1}, {K: 1, M: 2}, {K: 2}, {K: 2, M: 1}, {K: 2, M: 2}, {K: 3, M: 1}, {K: 4}}
	for _, c := range codes {
		for _, d := range codes {
			b, to := blobOf(c.K, c.M, 61), toBe(d.K, d.M)
			shards, others := cut(t, c, 61), cut(t, d, 61)
			orders(len(shards), c.K, func(order []int) {
				r := start(t, b, to)
				bring(t, r, b, shards, order)
				asksAre(t, r, 1, store(0, to, others, 1, from(0, len(others))...)...)
			})
			orders(len(others), len(others), func(order []int) {
				r := start(t, b, to)
				bring(t, r, b, shards, from(0, c.K))
				for _, i := range order {
					phaseIs(t, r, 2)
					hears(t, r, stored(to, i))
				}
				phaseIs(t, r, 3)
			})
		}
	}
}

// bring has shards of a blob come, of which the last one is enough.
func bring(t *testing.T, r *recode.Recoder, b api.Blob, shards [][]byte, order []int) {
	t.Helper()
	for _, i := range order {
		phaseIs(t, r, 1)
		hears(t, r, fetched(b, i, shards[i]))
	}
	phaseIs(t, r, 2)
}

// P18.3: blobs of many sizes, codes as wide as may be: the stored shards
// tell the blob.
func TestAnySize(t *testing.T) {
	for size := 0; size <= api.MaxBlob; size += 25 {
		b, to := blobOf(9, 6, size), toBe(7, 5)
		shards := cut(t, b.Code, size)
		r := start(t, b, to)
		bring(t, r, b, shards, from(6, 9))
		got := make([][]byte, 12)
		for _, x := range r.Asks(1)[5:] {
			got[x.Index] = x.Bytes
		}
		blob, e := stripe.Join(to.Code, size, got)
		if e != api.OK || !bytes.Equal(blob, whole(size)) {
			t.Fatalf("size %d: %x, %v", size, blob, e)
		}
	}
}

// Recoders that no call made.
func TestNil(t *testing.T) {
	for _, r := range []*recode.Recoder{nil, {}} {
		for range 2 {
			if r.Phase() != 0 || len(r.Asks(1)) != 0 || !reflect.DeepEqual(r.Recode(), api.Recode{}) {
				t.Error("a recoder that no call made tells something")
			}
			if r.On(api.Msg{}) || r.On(fetched(blobOf(1, 0, 0), 0, make([]byte, 8))) || r.On(api.Msg{Kind: api.MsgStored, OK: true}) {
				t.Error("a recoder that no call made hears something")
			}
		}
	}
}
