package shelf_test

import (
	"bytes"
	"slices"
	"testing"

	"amphora/api"
)

// room is bytes with more behind their end that nobody may change.
func room(b []byte) []byte { return append(slices.Clone(b), 0xa1, 0xa2, 0xa3)[:len(b)] }

// spoil writes over all that a list reaches.
func spoil(b []byte) {
	b = b[:cap(b)]
	for i := range b {
		b[i] ^= 0xff
	}
}

// full is a shelf with shards, a fence and notes, and what it has.
func full(t *testing.T) (*pair, stock) {
	t.Helper()
	a := newPair(t, 80)
	a.store(key{5, 0}, 0, some(50, 1))
	a.store(key{5, 1}, 0, some(3, 2))
	a.fence(key{5, 0}, 2)
	a.note(1, some(30, 3))
	a.note(2, nil)
	a.note(3, some(60, 4))
	return a, a.model.stock.copy()
}

func TestBytesAreNotChangedNorKept(t *testing.T) {
	a, want := full(t)
	shard, note := room(some(44, 5)), room(some(45, 6))
	whole := [][]byte{slices.Clone(shard[:47]), slices.Clone(note[:48])}
	is(t, "Store", a.shelf.Store(6, 0, 0, shard), api.OK)
	is(t, "Note", a.shelf.Note(6, note), api.OK)
	is(t, "Store of just these", a.shelf.Store(6, 0, 0, shard), api.OK)
	is(t, "Store of others", a.shelf.Store(5, 0, 3, shard), api.ErrThere)
	is(t, "Note of just these", a.shelf.Note(6, note), api.OK)
	if !bytes.Equal(shard[:47], whole[0]) || !bytes.Equal(note[:48], whole[1]) {
		t.Fatal("Store or Note changes its bytes")
	}
	spoil(shard)
	spoil(note)
	want.shards[key{6, 0}], want.notes[6] = some(44, 5), some(45, 6)
	has(t, "arguments spoilt", a.shelf, want)
	is(t, "Note of the spoilt", a.shelf.Note(6, some(45, 6)), api.OK)
	is(t, "Sync", a.shelf.Sync(), api.OK)
	has(t, "opened again", opened(t, a.plate), want)
}

// What lies behind the end of bytes does not count.
func TestRoomDoesNotCount(t *testing.T) {
	a := newPair(t, 80)
	a.store(key{1, 1}, 0, some(100, 1)[:40])
	a.store(key{1, 1}, 0, some(40, 1))
	a.note(1, some(100, 1)[:0])
	a.store(key{1, 2}, 0, some(100, 1)[:0])
}

func TestAnswersAreNewMemory(t *testing.T) {
	a, want := full(t)
	for range 2 {
		for k := range want.shards {
			b, _ := a.shelf.Fetch(k.blob, k.index, most)
			spoil(b)
		}
		for n := range want.notes {
			spoil(a.shelf.Noted(n))
		}
		notes := a.shelf.Notes()
		clear(notes[:cap(notes)])
		for _, h := range a.shelf.Held() {
			spoil(h.Bytes)
		}
		held := a.shelf.Held()
		clear(held[:cap(held)])
		has(t, "answers spoilt", a.shelf, want)
	}
	for _, b := range [][]byte{fetched(a, 0), fetched(a, 1)} {
		kept := a.shelf.Held()
		spoil(b)
		for _, h := range kept {
			if !bytes.Equal(h.Bytes, want.shards[key{h.Blob, h.Index}]) {
				t.Error("Held and Fetch answer the same memory")
			}
		}
	}
	is(t, "Sync", a.shelf.Sync(), api.OK)
	has(t, "opened again", opened(t, a.plate), want)
}

func fetched(a *pair, index int) []byte {
	b, _ := a.shelf.Fetch(5, index, most)
	return b
}

// Shards of one answer are apart, their spare room too.
func TestShardsAreApart(t *testing.T) {
	a, want := full(t)
	held := a.shelf.Held()
	spoil(held[0].Bytes)
	if !bytes.Equal(held[1].Bytes, want.shards[key{5, 1}]) {
		t.Error("two shards share memory")
	}
	one, other := a.shelf.Held(), a.shelf.Held()
	spoil(one[1].Bytes)
	if !bytes.Equal(other[1].Bytes, want.shards[key{5, 1}]) {
		t.Error("two answers share memory")
	}
}

// An answer stays as it was told, whatever becomes of the shelf.
func TestAnswersAreNotChanged(t *testing.T) {
	a, want := full(t)
	held, notes, noted, b := a.shelf.Held(), a.shelf.Notes(), a.shelf.Noted(3), fetched(a, 0)
	a.drop(key{5, 0})
	a.store(key{5, 0}, 2, some(50, 9))
	a.note(3, some(60, 9))
	a.note(0, nil)
	for i := range 100 {
		a.note(2, []byte{byte(i)})
	}
	a.plate.Fail()
	if !bytes.Equal(held[0].Bytes, want.shards[key{5, 0}]) || !bytes.Equal(b, want.shards[key{5, 0}]) ||
		!slices.Equal(notes, []int{1, 2, 3}) || !bytes.Equal(noted, want.notes[3]) {
		t.Error("an answer changes with the shelf")
	}
}
