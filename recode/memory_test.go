package recode_test

import (
	"bytes"
	"reflect"
	"slices"
	"testing"

	"amphora/api"
)

// room is a list with more behind its end that nobody may change.
func room[T any](l []T, more ...T) []T { return append(slices.Clone(l), more...)[:len(l)] }

// spoil writes over all that a list reaches.
func spoil[T any](l []T, with T) {
	l = l[:cap(l)]
	for i := range l {
		l[i] = with
	}
}

// A blob and a recode that were handed in are not changed, and may be written
// over.
func TestGivenIsNotChangedNorKept(t *testing.T) {
	b, to := blobOf(2, 1, 20), toBe(3, 1)
	blob, rec := b, to
	blob.Nodes, rec.Nodes = room(b.Nodes, 14, 15), room(to.Nodes, 12, 13)
	r := start(t, blob, rec)
	r.Asks(1)
	shards := cut(t, b.Code, 20)
	hears(t, r, fetched(b, 0, shards[0]))
	if !slices.Equal(blob.Nodes[:5], []int{1, 2, 3, 14, 15}) || !slices.Equal(rec.Nodes[:6], []int{4, 5, 6, 7, 12, 13}) {
		t.Fatalf("nodes are %v, %v by now", blob.Nodes[:5], rec.Nodes[:6])
	}
	spoil(blob.Nodes, -1)
	spoil(rec.Nodes, -1)
	asksAre(t, r, 1, fetch(0, b, 1, 1, 2)...)
	hears(t, r, fetched(b, 2, shards[2]))
	asksAre(t, r, 1, store(0, to, cut(t, to.Code, 20), 1, 0, 1, 2, 3)...)
	hears(t, r, stored(to, 1))
	if !reflect.DeepEqual(r.Recode(), to) {
		t.Fatalf("recode %+v", r.Recode())
	}
}

// So are a message's bytes.
func TestBytesAreNotChangedNorKept(t *testing.T) {
	b, to := blobOf(2, 1, 20), toBe(3, 1)
	shards := cut(t, b.Code, 20)
	r := start(t, b, to)
	for _, i := range []int{1, 2} {
		x := fetched(b, i, nil)
		x.Bytes = room(shards[i], 1, 2, 3)
		before := bytes.Clone(x.Bytes[:19])
		hears(t, r, x)
		if !bytes.Equal(x.Bytes[:19], before) {
			t.Fatal("bytes of a message are changed")
		}
		spoil(x.Bytes, 0xee)
	}
	asksAre(t, r, 1, store(0, to, cut(t, to.Code, 20), 1, 0, 1, 2, 3)...)
}

// What is told may be written over.
func TestAnswersAreNewMemory(t *testing.T) {
	to := toBe(3, 1)
	for phase := 1; phase <= 3; phase++ {
		r := in(t, phase)
		before := look(r)
		one, other := r.Asks(1), r.Asks(1)
		want := store(0, to, cut(t, to.Code, 20), 1, 0, 1, 2, 3)
		for i := range one {
			spoil(one[i].Bytes, 0xee)
			if phase == 2 && (!bytes.Equal(other[i].Bytes, want[i].Bytes) || i+1 < len(one) && !bytes.Equal(one[i+1].Bytes, want[i+1].Bytes)) {
				t.Fatal("two lists share memory")
			}
		}
		spoil(one, api.Msg{})
		spoil(r.Recode().Nodes, -1)
		if look(r) != before {
			t.Fatalf("%s, was %s", look(r), before)
		}
	}
}

// Recoders of one blob have nothing in common.
func TestRecodersAreApart(t *testing.T) {
	b, to := blobOf(2, 1, 20), toBe(3, 1)
	shards := cut(t, b.Code, 20)
	one, other := start(t, b, to), start(t, b, to)
	hears(t, one, fetched(b, 2, shards[2]), fetched(b, 1, shards[1]), stored(to, 0))
	asksAre(t, other, 1, fetch(0, b, 1, 0, 1, 2)...)
	hears(t, other, fetched(b, 2, shards[2]), fetched(b, 0, shards[0]))
	asksAre(t, one, 1, store(0, to, cut(t, to.Code, 20), 1, 1, 2, 3)...)
	asksAre(t, other, 1, store(0, to, cut(t, to.Code, 20), 1, 0, 1, 2, 3)...)
}
