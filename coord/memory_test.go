package coord_test

import (
	"bytes"
	"slices"
	"testing"

	"amphora/api"
	"amphora/coord"
	"amphora/frame"
)

// room is a list with more behind its end that nobody may change.
func room[T any](l []T, more ...T) []T { return append(slices.Clone(l), more...)[:len(l)] }

// spoil writes over all that a list reaches.
func spoil[T any](l []T, with T) {
	l = l[:cap(l)]
	for i := range l {
		l[i] = with
	}
}

// A put's bytes, and its nodes, are not changed, and may be written over.
func TestPutIsNotChangedNorKept(t *testing.T) {
	a, code := put(20), api.Code{K: 2, M: 1}
	a.Bytes = room(a.Bytes, 7, 8, 9)
	c := start(t, a)
	if !bytes.Equal(a.Bytes[:23], append(whole(20), 7, 8, 9)) {
		t.Fatal("a put's bytes are changed")
	}
	spoil(a.Bytes, 0xee)
	nodes := room([]int{9, 0, 4}, 5, 6)
	is(t, "Place", c.Place(code, nodes), api.OK)
	if !slices.Equal(nodes[:5], []int{9, 0, 4, 5, 6}) {
		t.Fatal("a put's nodes are changed")
	}
	spoil(nodes, -1)
	shards := cut(t, code, whole(20))
	for i, x := range c.Asks(1) {
		if x.To != []int{9, 0, 4}[i] || !bytes.Equal(x.Bytes, shards[i]) {
			t.Fatalf("asks %+v", x)
		}
		quiet(t, c.On(stored(i, x.To), since))
	}
	cmdIs(t, c, api.Cmd{ID: id, Kind: api.CmdPut, Key: "k1", Size: 20, Sum: frame.Sum(whole(20)), Code: code, Nodes: []int{9, 0, 4}})
}

// Bytes that are handed in with something wrong are not changed either.
func TestWrongIsNotChanged(t *testing.T) {
	a := put(20)
	a.Key = "?"
	a.Bytes = room(a.Bytes, 7)
	if _, e := coord.New(self, a, id, since); e != api.ErrArg || !bytes.Equal(a.Bytes[:21], append(whole(20), 7)) {
		t.Fatal("bytes are changed")
	}
	nodes := room([]int{4, 4, 4}, 4)
	if e := start(t, put(20)).Place(api.Code{K: 2, M: 1}, nodes); e != api.ErrArg || !slices.Equal(nodes[:4], []int{4, 4, 4, 4}) {
		t.Fatal("nodes are changed")
	}
}

// So are a get's blob, and the shards that come.
func TestGetIsNotChangedNorKept(t *testing.T) {
	b := blob(20)
	shards := cut(t, b.Code, whole(20))
	given := b
	given.Nodes = room(b.Nodes, 5, 6)
	c := reading(t, given)
	if !slices.Equal(given.Nodes[:5], []int{9, 3, 4, 5, 6}) {
		t.Fatal("a blob's nodes are changed")
	}
	spoil(given.Nodes, -1)
	var told []api.Told
	for _, i := range []int{0, 2} {
		x := fetched(b, i, nil)
		x.Bytes = room(shards[i], 1, 2)
		told = c.On(x, since)
		if !bytes.Equal(x.Bytes[:18], append(bytes.Clone(shards[i]), 1, 2)) {
			t.Fatal("a shard is changed")
		}
		spoil(x.Bytes, 0xee)
	}
	says(t, told, 71, api.SaysOK, whole(20))
}

// What is told may be written over.
func TestAnswersAreNewMemory(t *testing.T) {
	c := placed(t, 20)
	shards := cut(t, api.Code{K: 2, M: 1}, whole(20))
	asks, others := c.Asks(1), c.Asks(1)
	for i := range asks {
		spoil(asks[i].Bytes, 0xee)
	}
	spoil(asks, api.Msg{})
	for i := range 3 {
		if !bytes.Equal(others[i].Bytes, shards[i]) || !bytes.Equal(c.Asks(1)[i].Bytes, shards[i]) {
			t.Fatal("asks share memory")
		}
	}
	c = ready(t, 20)
	cmd, _ := c.Cmd()
	other, _ := c.Cmd()
	spoil(cmd.Nodes, -1)
	again, _ := c.Cmd()
	if !slices.Equal(other.Nodes, []int{9, 0, 4}) || !slices.Equal(again.Nodes, []int{9, 0, 4}) {
		t.Fatal("commands share memory")
	}
	b := blob(20)
	got := reading(t, b)
	spoil(got.Asks(1), api.Msg{})
	if x := got.Asks(1); x[0].To != 9 || x[1].To != 3 || x[2].To != 4 {
		t.Fatal("asks share memory")
	}
}

// Calls have nothing in common.
func TestCallsAreApart(t *testing.T) {
	b := blob(20)
	shards := cut(t, b.Code, whole(20))
	one, other := reading(t, b), reading(t, b)
	quiet(t, one.On(fetched(b, 0, shards[0]), since))
	if len(other.Asks(1)) != 3 {
		t.Fatal("a shard came to another call")
	}
	says(t, one.On(fetched(b, 1, shards[1]), since), 71, api.SaysOK, whole(20))
	if other.Done() {
		t.Fatal("another call is done")
	}
	quiet(t, other.On(fetched(b, 2, shards[2]), since))
	says(t, other.On(fetched(b, 1, shards[1]), since), 71, api.SaysOK, whole(20))
}
