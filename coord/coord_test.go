package coord_test

import (
	"bytes"
	"fmt"
	"math"
	"reflect"
	"strings"
	"testing"

	"amphora/api"
	"amphora/coord"
	"amphora/frame"
	"amphora/stripe"
)

const (
	self  = 3
	id    = 16
	since = 5
)

// whole is a blob's bytes.
func whole(size int) []byte {
	b := make([]byte, size)
	for i := range b {
		b[i] = byte(i*37 + 1)
	}
	return b
}

// cut is a blob's shards.
func cut(t *testing.T, c api.Code, b []byte) [][]byte {
	t.Helper()
	shards, e := stripe.Cut(c, b)
	if e != api.OK {
		t.Fatal(e)
	}
	return shards
}

func put(size int) api.Ask {
	return api.Ask{ID: 70, Kind: api.AskPut, Key: "k1", Bytes: whole(size)}
}
func get() api.Ask    { return api.Ask{ID: 71, Kind: api.AskGet, Key: "k2"} }
func remove() api.Ask { return api.Ask{ID: 72, Kind: api.AskDelete, Key: "k3"} }

// start is a call of node self, with the number id, since then.
func start(t *testing.T, a api.Ask) *coord.Call {
	t.Helper()
	c, e := coord.New(self, a, id, since)
	if e != api.OK || c == nil {
		t.Fatalf("New: %v, %v", c, e)
	}
	return c
}

// placed is a put of so many bytes by K 2, M 1, on the nodes 9, 0, 4.
func placed(t *testing.T, size int) *coord.Call {
	t.Helper()
	c := start(t, put(size))
	is(t, "Place", c.Place(api.Code{K: 2, M: 1}, []int{9, 0, 4}), api.OK)
	return c
}

// ready is a put that has its command.
func ready(t *testing.T, size int) *coord.Call {
	t.Helper()
	c := placed(t, size)
	for i, n := range []int{9, 0, 4} {
		quiet(t, c.On(stored(i, n), since))
	}
	return c
}

// blob is one of so many bytes by K 2, M 1, on the nodes 9, 3, 4.
func blob(size int) api.Blob {
	return api.Blob{ID: 8, Size: size, Sum: frame.Sum(whole(size)), Code: api.Code{K: 2, M: 1}, Nodes: []int{9, 3, 4}}
}

// reading is a get that knows its blob.
func reading(t *testing.T, b api.Blob) *coord.Call {
	t.Helper()
	c := start(t, get())
	quiet(t, c.Applied(api.Out{Kind: api.OutDone, Blob: b, Epoch: 4}, since))
	return c
}

func stored(i, node int) api.Msg {
	return api.Msg{Kind: api.MsgStored, OK: true, Blob: id, Index: i, From: node}
}

// fetched is the answer that brings a shard of a blob.
func fetched(b api.Blob, i int, shard []byte) api.Msg {
	return api.Msg{Kind: api.MsgFetched, OK: true, Blob: b.ID, Index: i, From: b.Nodes[i], Bytes: bytes.Clone(shard)}
}

func is(t *testing.T, what string, e, want api.Errno) {
	t.Helper()
	if e != want {
		t.Fatalf("%s: %v, want %v", what, e, want)
	}
}

func quiet(t *testing.T, told []api.Told) {
	t.Helper()
	if len(told) != 0 {
		t.Fatalf("told %+v", told)
	}
}

// says holds what is told against the one answer that it shall be.
func says(t *testing.T, told []api.Told, ask, want int, b []byte) {
	t.Helper()
	if len(told) != 1 || told[0].ID != ask || told[0].Says != want || !bytes.Equal(told[0].Bytes, b) {
		t.Fatalf("told %+v, want %d of %d", told, want, ask)
	}
}

func cmdIs(t *testing.T, c *coord.Call, want api.Cmd) {
	t.Helper()
	got, ok := c.Cmd()
	if !ok || !reflect.DeepEqual(got, want) {
		t.Fatalf("command %+v, %v, want %+v", got, ok, want)
	}
}

func noCmd(t *testing.T, c *coord.Call) {
	t.Helper()
	if got, ok := c.Cmd(); ok || !reflect.DeepEqual(got, api.Cmd{}) {
		t.Fatalf("command %+v, %v", got, ok)
	}
}

func asksAre(t *testing.T, c *coord.Call, epoch int, want ...api.Msg) {
	t.Helper()
	got := c.Asks(epoch)
	if len(got) != len(want) || len(want) > 0 && !reflect.DeepEqual(got, want) {
		t.Fatalf("asks %+v, want %+v", got, want)
	}
}

// look is all that a call tells.
func look(c *coord.Call) string {
	cmd, ok := c.Cmd()
	return fmt.Sprintf("%+v %+v %v %v", c.Asks(11), cmd, ok, c.Done())
}

// ended holds a call against one that was told: nothing comes of it any more.
func ended(t *testing.T, c *coord.Call) {
	t.Helper()
	if !c.Done() {
		t.Fatal("not done")
	}
	noCmd(t, c)
	asksAre(t, c, 1)
	is(t, "Place", c.Place(api.Code{K: 1}, []int{0}), api.ErrArg)
	b := blob(20)
	for i, n := range b.Nodes {
		quiet(t, c.On(stored(i, n), since))
		quiet(t, c.On(api.Msg{Kind: api.MsgStored, Blob: id, Index: i, From: n}, since))
		quiet(t, c.On(fetched(b, i, make([]byte, 16)), since))
	}
	for kind := -1; kind < 8; kind++ {
		quiet(t, c.Applied(api.Out{Kind: kind, Blob: b}, since))
	}
	quiet(t, c.Tick(math.MaxInt))
	asksAre(t, c, 1)
	noCmd(t, c)
	if !c.Done() {
		t.Fatal("done no more")
	}
}

// Example 1 of the chapter.
func TestExample(t *testing.T) {
	c := placed(t, 20)
	shards := cut(t, api.Code{K: 2, M: 1}, whole(20))
	var want []api.Msg
	for i, n := range []int{9, 0, 4} {
		want = append(want, api.Msg{Kind: api.MsgStore, From: self, To: n, Blob: id, Index: i, Epoch: 6, Bytes: shards[i]})
	}
	asksAre(t, c, 6, want...)
	noCmd(t, c)
	quiet(t, c.On(stored(1, 0), since))
	asksAre(t, c, 6, want[0], want[2])
	noCmd(t, c)
	quiet(t, c.On(stored(2, 4), since))
	asksAre(t, c, 6, want[0])
	noCmd(t, c)
	quiet(t, c.On(stored(0, 9), since))
	asksAre(t, c, 6)
	cmdIs(t, c, api.Cmd{ID: id, Kind: api.CmdPut, Key: "k1", Size: 20, Sum: frame.Sum(whole(20)), Code: api.Code{K: 2, M: 1}, Nodes: []int{9, 0, 4}})
	says(t, c.Applied(api.Out{Kind: api.OutDone}, since), 70, api.SaysOK, nil)
	ended(t, c)
}

// P19.1: who may call what.
func TestNew(t *testing.T) {
	type given struct {
		self    int
		ask     api.Ask
		id, now int
	}
	for _, x := range []struct {
		name string
		as   func(g *given)
		want api.Errno
	}{
		{"as it is", func(g *given) {}, api.OK},
		{"self least", func(g *given) { g.self = math.MinInt }, api.ErrArg},
		{"self -1", func(g *given) { g.self = -1 }, api.ErrArg},
		{"self 0", func(g *given) { g.self = 0 }, api.OK},
		{"self 15", func(g *given) { g.self = api.MaxNodes - 1 }, api.OK},
		{"self 16", func(g *given) { g.self = api.MaxNodes }, api.ErrArg},
		{"self greatest", func(g *given) { g.self = math.MaxInt }, api.ErrArg},
		{"no key", func(g *given) { g.ask.Key = "" }, api.ErrArg},
		{"shortest key", func(g *given) { g.ask.Key = "z" }, api.OK},
		{"longest key", func(g *given) { g.ask.Key = "09azbcde" }, api.OK},
		{"key too long", func(g *given) { g.ask.Key = "09azbcdef" }, api.ErrArg},
		{"key without end", func(g *given) { g.ask.Key = strings.Repeat("a", 1<<20) }, api.ErrArg},
		{"great letter", func(g *given) { g.ask.Key = "aB" }, api.ErrArg},
		{"a blank", func(g *given) { g.ask.Key = "a b" }, api.ErrArg},
		{"another letter", func(g *given) { g.ask.Key = "\u00e4" }, api.ErrArg},
		{"id least", func(g *given) { g.id = math.MinInt }, api.ErrArg},
		{"id 0", func(g *given) { g.id = 0 }, api.ErrArg},
		{"id 1", func(g *given) { g.id = 1 }, api.OK},
		{"id greatest", func(g *given) { g.id = api.MaxNumber }, api.OK},
		{"id one more", func(g *given) { g.id = api.MaxNumber + 1 }, api.ErrArg},
		{"now least", func(g *given) { g.now = math.MinInt }, api.ErrArg},
		{"now -1", func(g *given) { g.now = -1 }, api.ErrArg},
		{"now 0", func(g *given) { g.now = 0 }, api.OK},
		{"now greatest", func(g *given) { g.now = 1 << 40 }, api.OK},
		{"now one more", func(g *given) { g.now = 1<<40 + 1 }, api.ErrArg},
		{"kind -1", func(g *given) { g.ask.Kind = -1 }, api.ErrArg},
		{"kind 0", func(g *given) { g.ask.Kind = 0 }, api.ErrArg},
		{"kind 4", func(g *given) { g.ask.Kind = 4 }, api.ErrArg},
		{"kind greatest", func(g *given) { g.ask.Kind = math.MaxInt }, api.ErrArg},
		{"ask 0", func(g *given) { g.ask.ID = 0 }, api.OK},
		{"ask below 0", func(g *given) { g.ask.ID = math.MinInt }, api.OK},
	} {
		for _, a := range []api.Ask{put(20), get(), remove()} {
			g := given{self, a, id, since}
			x.as(&g)
			c, e := coord.New(g.self, g.ask, g.id, g.now)
			if e != x.want || (c != nil) != (e == api.OK) {
				t.Errorf("%s of kind %d: %v, %v, want %v", x.name, a.Kind, c, e, x.want)
			}
			if e != api.OK {
				continue
			}
			cmd, ok := c.Cmd()
			if put := a.Kind == api.AskPut; ok == put || ok && (cmd.ID != g.id || cmd.Key != g.ask.Key) || c.Done() || len(c.Asks(1)) != 0 {
				t.Errorf("%s of kind %d: %s", x.name, a.Kind, look(c))
			}
			says(t, c.Tick(g.now+api.CallTime), g.ask.ID, api.SaysTimeout, nil)
		}
	}
}

// P19.1: how many bytes a call may have.
func TestBytes(t *testing.T) {
	for size, want := range map[int]api.Errno{0: api.OK, 1: api.OK, api.MaxBlob: api.OK, api.MaxBlob + 1: api.ErrArg, 1 << 20: api.ErrArg} {
		_, e := coord.New(self, put(size), id, since)
		is(t, fmt.Sprint("put of ", size), e, want)
		for _, a := range []api.Ask{get(), remove()} {
			a.Bytes = make([]byte, size)
			want := api.ErrArg
			if size == 0 {
				want = api.OK
			}
			_, e := coord.New(self, a, id, since)
			is(t, fmt.Sprint("kind ", a.Kind, " of ", size), e, want)
		}
	}
}

// P19.1: where a put may lie.
func TestPlace(t *testing.T) {
	all := []int{0, 1, 2, 3, 4, 5, 6, 7, 8, 9, 10, 11, 12, 13, 14, 15}
	for _, x := range []struct {
		name  string
		code  api.Code
		nodes []int
		want  api.Errno
	}{
		{"one node", api.Code{K: 1}, []int{15}, api.OK},
		{"the call's own", api.Code{K: 1}, []int{self}, api.OK},
		{"all nodes", api.Code{K: 10, M: 6}, all, api.OK},
		{"K 0", api.Code{K: 0, M: 2}, []int{0, 1}, api.ErrArg},
		{"K below 0", api.Code{K: -1, M: 3}, []int{0, 1}, api.ErrArg},
		{"M below 0", api.Code{K: 3, M: -1}, []int{0, 1}, api.ErrArg},
		{"sum wraps round", api.Code{K: math.MaxInt, M: math.MinInt + 3}, []int{0, 1}, api.ErrArg},
		{"too wide", api.Code{K: 255, M: 1}, make([]int, 256), api.ErrArg},
		{"no nodes", api.Code{K: 1, M: 1}, nil, api.ErrArg},
		{"too few", api.Code{K: 1, M: 1}, []int{3}, api.ErrArg},
		{"too many", api.Code{K: 1, M: 1}, []int{3, 4, 5}, api.ErrArg},
		{"twice", api.Code{K: 1, M: 2}, []int{3, 4, 3}, api.ErrArg},
		{"node -1", api.Code{K: 1, M: 1}, []int{-1, 4}, api.ErrArg},
		{"node 16", api.Code{K: 1, M: 1}, []int{4, 16}, api.ErrArg},
		{"without end", api.Code{K: 1, M: 1}, make([]int, 1<<20), api.ErrArg},
	} {
		for _, size := range []int{0, 20, api.MaxBlob} {
			c := start(t, put(size))
			before := look(c)
			is(t, x.name, c.Place(x.code, x.nodes), x.want)
			if x.want != api.OK {
				if after := look(c); after != before {
					t.Errorf("%s: %s, was %s", x.name, after, before)
				}
				is(t, "Place behind an error", c.Place(api.Code{K: 1}, []int{7}), api.OK)
				continue
			}
			shards := cut(t, x.code, whole(size))
			var want []api.Msg
			for i, n := range x.nodes {
				want = append(want, api.Msg{Kind: api.MsgStore, From: self, To: n, Blob: id, Index: i, Epoch: 2, Bytes: shards[i]})
			}
			asksAre(t, c, 2, want...)
			for i, n := range x.nodes {
				noCmd(t, c)
				quiet(t, c.On(stored(i, n), since))
			}
			cmdIs(t, c, api.Cmd{ID: id, Kind: api.CmdPut, Key: "k1", Size: size, Sum: frame.Sum(whole(size)), Code: x.code, Nodes: x.nodes})
		}
	}
}

// P19.1: a put is placed once, another call never.
func TestPlaceOnce(t *testing.T) {
	for name, c := range map[string]*coord.Call{
		"twice":         placed(t, 20),
		"stored":        ready(t, 20),
		"get":           start(t, get()),
		"get, applied":  reading(t, blob(20)),
		"delete":        start(t, remove()),
		"empty, placed": placed(t, 0),
	} {
		before := look(c)
		is(t, name, c.Place(api.Code{K: 1}, []int{0}), api.ErrArg)
		is(t, name, c.Place(api.Code{K: 2, M: 1}, []int{9, 0, 4}), api.ErrArg)
		if after := look(c); after != before {
			t.Errorf("%s: %s, was %s", name, after, before)
		}
	}
	c := start(t, put(20))
	says(t, c.Tick(since+api.CallTime), 70, api.SaysTimeout, nil)
	is(t, "Place of one that is done", c.Place(api.Code{K: 1}, []int{0}), api.ErrArg)
}

// P19.2: commands of each kind, till they were applied.
func TestCmd(t *testing.T) {
	noCmd(t, start(t, put(20)))
	noCmd(t, placed(t, 20))
	g := start(t, get())
	cmdIs(t, g, api.Cmd{ID: id, Kind: api.CmdGet, Key: "k2"})
	asksAre(t, g, 1)
	quiet(t, g.Applied(api.Out{Kind: api.OutDone, Blob: blob(20)}, since))
	noCmd(t, g)
	d := start(t, remove())
	cmdIs(t, d, api.Cmd{ID: id, Kind: api.CmdDelete, Key: "k3"})
	asksAre(t, d, 1)
	says(t, d.Applied(api.Out{Kind: api.OutDone}, since), 72, api.SaysOK, nil)
	ended(t, d)
}

// P19.3: what a get asks for, of any epoch.
func TestAsksOfGet(t *testing.T) {
	b := blob(20)
	shards := cut(t, b.Code, whole(20))
	for _, epoch := range []int{math.MinInt, -1, 0, 1, api.MaxNumber, math.MaxInt} {
		c := reading(t, b)
		fetch := func(i int) api.Msg {
			return api.Msg{Kind: api.MsgFetch, From: self, To: b.Nodes[i], Blob: 8, Index: i, Epoch: epoch}
		}
		asksAre(t, c, epoch, fetch(0), fetch(1), fetch(2))
		quiet(t, c.On(fetched(b, 1, shards[1]), since))
		asksAre(t, c, epoch, fetch(0), fetch(2))
		quiet(t, c.On(fetched(b, 1, shards[1]), since))
		asksAre(t, c, epoch, fetch(0), fetch(2))
		says(t, c.On(fetched(b, 2, shards[2]), since), 71, api.SaysOK, whole(20))
		ended(t, c)
	}
}

// almost is messages that are as one is but for one thing; all of nodes 9, 0
// or 3, 4.
func almost(x api.Msg) map[string]api.Msg {
	all := map[string]api.Msg{}
	but := func(name string, change func(x *api.Msg)) {
		other := x
		other.Bytes = bytes.Clone(x.Bytes)
		change(&other)
		all[name] = other
	}
	but("another blob", func(x *api.Msg) { x.Blob++ })
	but("no blob", func(x *api.Msg) { x.Blob = 0 })
	but("another index", func(x *api.Msg) { x.Index = 2 - x.Index })
	but("index 1", func(x *api.Msg) { x.Index = 1 })
	but("index -1", func(x *api.Msg) { x.Index = -1 })
	but("index 3", func(x *api.Msg) { x.Index = 3 })
	but("index least", func(x *api.Msg) { x.Index = math.MinInt })
	but("index greatest", func(x *api.Msg) { x.Index = math.MaxInt })
	but("node 0", func(x *api.Msg) { x.From = 0 })
	but("node 3", func(x *api.Msg) { x.From = 3 })
	but("another node", func(x *api.Msg) { x.From = 13 - x.From })
	but("no node", func(x *api.Msg) { x.From = -1 })
	for kind := -1; kind <= api.MsgFenced+1; kind++ {
		if kind != x.Kind {
			but(fmt.Sprint("kind ", kind), func(x *api.Msg) { x.Kind = kind })
		}
	}
	return all
}

// ignores has a call hear a message that brings nothing.
func ignores(t *testing.T, name string, c *coord.Call, x api.Msg) {
	t.Helper()
	before := look(c)
	quiet(t, c.On(x, since))
	if after := look(c); after != before {
		t.Fatalf("%s: %s, was %s", name, after, before)
	}
}

// P19.4: a store that is heard, and answers that are none.
func TestStored(t *testing.T) {
	for _, i := range []int{0, 2} {
		for _, ok := range []bool{true, false} {
			x := stored(i, []int{9, 0, 4}[i])
			x.OK = ok
			for name, other := range almost(x) {
				ignores(t, name, placed(t, 20), other)
			}
			ignores(t, "not placed", start(t, put(20)), x)
			ignores(t, "get", start(t, get()), x)
			ignores(t, "get, applied", reading(t, blob(20)), x)
			ignores(t, "delete", start(t, remove()), x)
		}
	}
}

// P19.4: a store that is heard twice was heard once; what was stored can't be
// refused any more.
func TestStoredTwice(t *testing.T) {
	c := placed(t, 20)
	for i, n := range []int{9, 0, 4} {
		noCmd(t, c)
		quiet(t, c.On(stored(i, n), since))
		ignores(t, "twice", c, stored(i, n))
		no := stored(i, n)
		no.OK = false
		ignores(t, "refused behind it", c, no)
	}
	if _, ok := c.Cmd(); !ok {
		t.Fatal("no command")
	}
}

// P19.4: a store that is refused is the end of the put, whatever was stored.
func TestRefused(t *testing.T) {
	for i, n := range []int{9, 0, 4} {
		for before := range i + 1 {
			c := placed(t, 20)
			for j, n := range []int{9, 0, 4}[:before] {
				quiet(t, c.On(stored(j, n), since))
			}
			no := stored(i, n)
			no.OK = false
			says(t, c.On(no, since), 70, api.SaysNot, nil)
			ended(t, c)
		}
	}
}

// P19.4: shards as asked but for one thing.
func TestFetched(t *testing.T) {
	b := blob(20)
	shards := cut(t, b.Code, whole(20))
	for _, i := range []int{0, 2} {
		x := fetched(b, i, shards[i])
		others := almost(x)
		no, short, long, none := x, x, x, x
		no.OK = false
		short.Bytes, long.Bytes, none.Bytes = x.Bytes[:15], append(bytes.Clone(x.Bytes), 0), nil
		others["not OK"], others["short"], others["long"], others["none"] = no, short, long, none
		for name, other := range others {
			ignores(t, name, reading(t, b), other)
		}
		ignores(t, "put", start(t, put(20)), x)
		ignores(t, "put, placed", placed(t, 20), x)
		ignores(t, "get, not applied", start(t, get()), x)
		ignores(t, "delete", start(t, remove()), x)
	}
}

// P19.4, P19.6: any K shards, in whatever order, tell the blob.
func TestAnyShards(t *testing.T) {
	for _, size := range []int{0, 1, 20, api.MaxBlob} {
		for _, code := range []api.Code{{K: 1}, {K: 1, M: 2}, {K: 2, M: 2}, {K: 3, M: 1}} {
			b := api.Blob{ID: 8, Size: size, Sum: frame.Sum(whole(size)), Code: code, Nodes: []int{9, 3, 4, 0}[:code.K+code.M]}
			shards := cut(t, code, whole(size))
			var goOn func(ahead []int)
			goOn = func(ahead []int) {
				if len(ahead) < code.K {
					for i := range shards {
						goOn(append(ahead, i))
					}
					return
				}
				c, came := reading(t, b), map[int]int{}
				for n, i := range ahead {
					came[i] = n
					told := c.On(fetched(b, i, shards[i]), since)
					if len(came) < code.K {
						quiet(t, told)
						continue
					}
					says(t, told, 71, api.SaysOK, whole(size))
					ended(t, c)
				}
			}
			goOn(nil)
		}
	}
}

// P19.4: shards of another blob are none of it.
func TestAnotherSum(t *testing.T) {
	b := blob(20)
	shards := cut(t, b.Code, whole(20))
	c := reading(t, b)
	quiet(t, c.On(fetched(b, 0, shards[0]), since))
	wrong := bytes.Clone(shards[2])
	wrong[0]++
	says(t, c.On(fetched(b, 2, wrong), since), 71, api.SaysNot, nil)
	ended(t, c)
	b.Sum++
	c = reading(t, b)
	quiet(t, c.On(fetched(b, 0, shards[0]), since))
	says(t, c.On(fetched(b, 1, shards[1]), since), 71, api.SaysNot, nil)
	ended(t, c)
}

// P19.4, P19.6: the lease begins with the call, and counts when the last shard
// comes.
func TestLease(t *testing.T) {
	b := blob(20)
	shards := cut(t, b.Code, whole(20))
	for _, begun := range []int{0, since, 1000, 1<<40 - 41, 1<<40 - 40, 1<<40 - 1, 1 << 40} {
		end := min(begun+api.LeaseTime, 1<<40)
		for now, ok := range map[int]bool{
			math.MinInt: end > 0, -1: true, begun: begun < end, end - 1: true, end: false, end + 1: false, math.MaxInt: false,
		} {
			c, e := coord.New(self, get(), id, begun)
			is(t, "New", e, api.OK)
			quiet(t, c.Applied(api.Out{Kind: api.OutDone, Blob: b}, now))
			quiet(t, c.On(fetched(b, 1, shards[1]), math.MaxInt)) // not the last one
			told := c.On(fetched(b, 0, shards[0]), now)
			if ok {
				says(t, told, 71, api.SaysOK, whole(20))
			} else {
				says(t, told, 71, api.SaysNot, nil)
			}
			ended(t, c)
		}
	}
}

// P19.5: each outcome, of each kind of call, if it has a command.
func TestApplied(t *testing.T) {
	says4 := func(done, there, missing, refused int) map[int]int {
		m := map[int]int{api.OutDone: done, api.OutThere: there, api.OutMissing: missing, api.OutRefused: refused}
		for _, kind := range []int{math.MinInt, -1, 0, 6, 7, math.MaxInt} {
			m[kind] = api.SaysNot
		}
		return m
	}
	for _, x := range []struct {
		name string
		call func() *coord.Call
		ask  int
		want map[int]int
	}{
		{"put", func() *coord.Call { return ready(t, 20) }, 70, says4(api.SaysOK, api.SaysThere, api.SaysNot, api.SaysNot)},
		{"get", func() *coord.Call { return start(t, get()) }, 71, says4(api.SaysNot, api.SaysNot, api.SaysMissing, api.SaysNot)},
		{"delete", func() *coord.Call { return start(t, remove()) }, 72, says4(api.SaysOK, api.SaysNot, api.SaysMissing, api.SaysNot)},
	} {
		for kind, want := range x.want {
			c := x.call()
			before := look(c)
			quiet(t, c.Applied(api.Out{Kind: api.OutTwice, Blob: blob(20)}, since))
			if after := look(c); after != before {
				t.Fatalf("%s twice: %s, was %s", x.name, after, before)
			}
			says(t, c.Applied(api.Out{Kind: kind}, since), x.ask, want, nil)
			ended(t, c)
		}
	}
}

// P19.5: a call without a command does not hear of one.
func TestAppliedWithoutCommand(t *testing.T) {
	for name, call := range map[string]func() *coord.Call{
		"put":          func() *coord.Call { return start(t, put(20)) },
		"put, placed":  func() *coord.Call { return placed(t, 20) },
		"get, applied": func() *coord.Call { return reading(t, blob(20)) },
		"put, one left": func() *coord.Call {
			c := placed(t, 20)
			quiet(t, c.On(stored(0, 9), since))
			quiet(t, c.On(stored(1, 0), since))
			return c
		},
	} {
		for kind := -1; kind < 8; kind++ {
			c := call()
			before := look(c)
			other := blob(20)
			other.ID = 9
			quiet(t, c.Applied(api.Out{Kind: kind, Blob: other}, since))
			if after := look(c); after != before {
				t.Errorf("%s, outcome %d: %s, was %s", name, kind, after, before)
			}
		}
	}
}

// P19.5: a get whose blob may not be can't be answered.
func TestBlobThatMayNotBe(t *testing.T) {
	for _, x := range []struct {
		name string
		as   func(b *api.Blob)
		ok   bool
	}{
		{"as it is", func(b *api.Blob) {}, true},
		{"ID below 0", func(b *api.Blob) { b.ID = -1 }, true},
		{"on the call's node", func(b *api.Blob) { b.Nodes = []int{self, 9, 4} }, true},
		{"empty", func(b *api.Blob) { b.Size = 0 }, true},
		{"greatest", func(b *api.Blob) { b.Size = api.MaxBlob }, true},
		{"no blob", func(b *api.Blob) { *b = api.Blob{} }, false},
		{"size -1", func(b *api.Blob) { b.Size = -1 }, false},
		{"too great", func(b *api.Blob) { b.Size = api.MaxBlob + 1 }, false},
		{"K 0", func(b *api.Blob) { b.Code = api.Code{K: 0, M: 3} }, false},
		{"M below 0", func(b *api.Blob) { b.Code = api.Code{K: 4, M: -1} }, false},
		{"too wide", func(b *api.Blob) { b.Code, b.Nodes = api.Code{K: 255, M: 1}, make([]int, 256) }, false},
		{"no nodes", func(b *api.Blob) { b.Nodes = nil }, false},
		{"too few", func(b *api.Blob) { b.Nodes = []int{9, 3} }, false},
		{"too many", func(b *api.Blob) { b.Nodes = []int{9, 3, 4, 5} }, false},
		{"twice", func(b *api.Blob) { b.Nodes = []int{9, 3, 9} }, false},
		{"node -1", func(b *api.Blob) { b.Nodes = []int{-1, 3, 9} }, false},
		{"node 16", func(b *api.Blob) { b.Nodes = []int{16, 3, 9} }, false},
	} {
		b := blob(20)
		x.as(&b)
		c := start(t, get())
		told := c.Applied(api.Out{Kind: api.OutDone, Blob: b}, since)
		if !x.ok {
			says(t, told, 71, api.SaysNot, nil)
			ended(t, c)
			continue
		}
		quiet(t, told)
		noCmd(t, c)
		if c.Done() || len(c.Asks(1)) != 3 || c.Asks(1)[0].Blob != b.ID {
			t.Errorf("%s: %s", x.name, look(c))
		}
	}
}

// P19.5: a call is given up behind its time, whatever it was about.
func TestTick(t *testing.T) {
	for name, call := range map[string]func() *coord.Call{
		"put":          func() *coord.Call { return start(t, put(20)) },
		"put, placed":  func() *coord.Call { return placed(t, 20) },
		"put, stored":  func() *coord.Call { return ready(t, 20) },
		"get":          func() *coord.Call { return start(t, get()) },
		"get, applied": func() *coord.Call { return reading(t, blob(20)) },
		"delete":       func() *coord.Call { return start(t, remove()) },
	} {
		for now, late := range map[int]bool{
			math.MinInt: false, -1: false, 0: false, since: false, since + 59: false,
			since + 60: true, since + 61: true, math.MaxInt: true,
		} {
			c := call()
			before := look(c)
			told := c.Tick(now)
			if !late {
				quiet(t, told)
				if after := look(c); after != before {
					t.Errorf("%s at %d: %s, was %s", name, now, after, before)
				}
				continue
			}
			if len(told) != 1 || told[0].Says != api.SaysTimeout || told[0].ID < 70 || len(told[0].Bytes) != 0 {
				t.Errorf("%s at %d: %+v", name, now, told)
			}
			ended(t, c)
		}
	}
}

// Calls that no call made.
func TestNil(t *testing.T) {
	for name, c := range map[string]*coord.Call{"nil": nil, "plain": {}} {
		is(t, name, c.Place(api.Code{}, nil), api.ErrNil)
		is(t, name, c.Place(api.Code{K: 1}, []int{0}), api.ErrNil)
		noCmd(t, c)
		asksAre(t, c, 1)
		quiet(t, c.On(stored(0, 9), since))
		quiet(t, c.On(api.Msg{Kind: api.MsgStored}, since))
		quiet(t, c.On(fetched(blob(20), 0, make([]byte, 16)), since))
		for kind := -1; kind < 8; kind++ {
			quiet(t, c.Applied(api.Out{Kind: kind, Blob: blob(20)}, since))
		}
		quiet(t, c.Tick(math.MaxInt))
		if c.Done() {
			t.Errorf("%s is done", name)
		}
	}
}
