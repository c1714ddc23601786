package mover_test

import (
	"bytes"
	"slices"
	"testing"

	"amphora/api"
	"amphora/mover"
)

// room is a list with more behind its end that nobody may change.
func room[T any](l []T, more ...T) []T { return append(slices.Clone(l), more...)[:len(l)] }

// spoil writes over all that a list reaches.
func spoil[T any](l []T, with T) {
	l = l[:cap(l)]
	for i := range l {
		l[i] = with
	}
}

// A blob that was handed in is not changed, and may be written over.
func TestBlobIsNotChangedNorKept(t *testing.T) {
	b := on(2, 1, 20)
	given := b
	given.Nodes = room(b.Nodes, 4, 5)
	m := start(t, given, 1)
	m.Asks(1)
	hears(t, m, fetched(b, 0, cut(t, b)[0]))
	if !slices.Equal(given.Nodes[:5], []int{1, 2, 3, 4, 5}) {
		t.Fatalf("nodes are %v by now", given.Nodes[:5])
	}
	spoil(given.Nodes, -1)
	asksAre(t, m, 1, fetch(0, b, 1, 1), fetch(0, b, 2, 1))
	hears(t, m, fetched(b, 2, cut(t, b)[2]))
	is(t, "Stored", m.Stored(1), api.OK)
	asksAre(t, m, 1, api.Msg{Kind: api.MsgFence, To: 2, Blob: 7, Index: 1, Epoch: 2})
	hears(t, m, fenced(b, 1))
}

// So are a message's bytes: of a shard that is one of K, and of the one itself.
func TestBytesAreNotChangedNorKept(t *testing.T) {
	b := on(2, 1, 20)
	shards := cut(t, b)
	for _, index := range []int{0, 2} {
		m := start(t, b, index)
		for i := range 2 {
			x := fetched(b, i, nil)
			x.Bytes = room(shards[i], 1, 2, 3)
			whole := bytes.Clone(x.Bytes[:19])
			m.On(x)
			if !bytes.Equal(x.Bytes[:19], whole) {
				t.Fatal("bytes of a message are changed")
			}
			spoil(x.Bytes, 0xee)
		}
		shardIs(t, m, shards[index])
	}
}

// So is what Have is handed.
func TestHaveIsNotChangedNorKept(t *testing.T) {
	m, b := start(t, on(2, 1, 20), 1), room(bytes.Repeat([]byte{3}, 16), 1, 2)
	is(t, "Have", m.Have(b), api.OK)
	if !bytes.Equal(b[:18], append(bytes.Repeat([]byte{3}, 16), 1, 2)) {
		t.Fatal("what Have was handed is changed")
	}
	spoil(b, 9)
	shardIs(t, m, bytes.Repeat([]byte{3}, 16))
}

// What is told may be written over.
func TestAnswersAreNewMemory(t *testing.T) {
	b := on(2, 1, 20)
	shards := cut(t, b)
	for _, bring := range []func(m *mover.Mover){
		func(m *mover.Mover) { hears(t, m, fetched(b, 0, shards[0]), fetched(b, 2, shards[2])) },
		func(m *mover.Mover) { hears(t, m, fetched(b, 1, shards[1])) },
		func(m *mover.Mover) { is(t, "Have", m.Have(shards[1]), api.OK) },
	} {
		m := start(t, b, 1)
		spoil(m.Asks(1), api.Msg{})
		asksAre(t, m, 1, fetch(0, b, 0, 1), fetch(0, b, 1, 1), fetch(0, b, 2, 1))
		bring(m)
		one, other := m.Shard(), m.Shard()
		spoil(one, 0xee)
		if !bytes.Equal(other, shards[1]) {
			t.Fatal("two answers share memory")
		}
		shardIs(t, m, shards[1])
		is(t, "Stored", m.Stored(3), api.OK)
		spoil(m.Asks(1), api.Msg{})
		asksAre(t, m, 1, api.Msg{Kind: api.MsgFence, To: 2, Blob: 7, Index: 1, Epoch: 4})
		shardIs(t, m, shards[1])
	}
}

// Movers of one blob have nothing in common.
func TestMoversAreApart(t *testing.T) {
	b := on(2, 1, 20)
	shards := cut(t, b)
	one, other := start(t, b, 0), start(t, b, 1)
	hears(t, one, fetched(b, 2, shards[2]), fetched(b, 1, shards[1]))
	phaseIs(t, other, 1)
	asksAre(t, other, 1, fetch(0, b, 0, 1), fetch(0, b, 1, 1), fetch(0, b, 2, 1))
	hears(t, other, fetched(b, 2, shards[2]), fetched(b, 0, shards[0]))
	shardIs(t, one, shards[0])
	shardIs(t, other, shards[1])
}
