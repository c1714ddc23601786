package wal_test

import (
	"bytes"
	"slices"
	"testing"

	"amphora/api"
	"amphora/wal"
)

// room is a list with more behind its end that nobody may change.
func room[T any](l []T, more ...T) []T { return append(slices.Clone(l), more...)[:len(l)] }

// roomy is records of which all lists have room behind their ends.
func roomy(recs [][]byte) [][]byte {
	var l [][]byte
	for _, rec := range recs {
		l = append(l, room(rec, 0xa1, 0xa2, 0xa3))
	}
	return room(l, []byte{0xb1}, nil)
}

// whole is a copy of all that the lists reach, their room included.
func whole(recs [][]byte) [][]byte {
	var w [][]byte
	for _, rec := range recs[:cap(recs)] {
		w = append(w, slices.Clone(rec[:cap(rec)]))
	}
	return w
}

// spoil writes over all that the lists reach.
func spoil(recs [][]byte) {
	for _, rec := range recs[:cap(recs)] {
		for i := range rec[:cap(rec)] {
			rec[:cap(rec)][i] ^= 0xff
		}
	}
	clear(recs[:cap(recs)])
}

func TestRecordsAreNotChangedNorKept(t *testing.T) {
	p := newPlate(t, 20)
	w, _ := opened(t, p)
	lists := roomy(records(41, 80, 1))
	before := whole(lists)
	for _, rec := range lists {
		if _, e := w.Append(rec); e != api.OK {
			t.Fatal(e)
		}
	}
	if !same(whole(lists), before) {
		t.Fatal("Append changes its record")
	}
	spoil(lists)
	w.Sync()
	tells(t, "appended records spoilt", p.Copy(), records(41, 80, 1))

	lists = roomy(records(60, 1))
	before = whole(lists)
	is(t, "Checkpoint", w.Checkpoint(lists), api.OK)
	if !same(whole(lists), before) {
		t.Fatal("Checkpoint changes its records")
	}
	spoil(lists)
	tells(t, "records of a checkpoint spoilt", p.Copy(), records(60, 1))

	lists = roomy(append(records(60, 1), nil))
	before = whole(lists)
	is(t, "Checkpoint", w.Checkpoint(lists), api.ErrArg)
	if !same(whole(lists), before) {
		t.Fatal("a refused Checkpoint changes its records")
	}
}

// One list may stand in a checkpoint twice.
func TestRecordsThatShare(t *testing.T) {
	a := newPair(t, bare(12))
	b := record(100, 1)
	a.checkpoint(b, b[10:50], b)
	tells(t, "records that share", a.mine, [][]byte{b, b[10:50], b})
}

// What lies behind a record's end does not count.
func TestRoomDoesNotCount(t *testing.T) {
	a := newPair(t, bare(8))
	a.append(record(100, 1)[:40])
	counts(t, "40 bytes in room", a.wal, 1, 1, 5)
	a.append(record(100, 1)[:0])
	a.checkpoint(records(1, 2, 3, 4, 5, 6, 7, 8)[:2]...)
	counts(t, "two records in room", a.wal, 1, 3, 4)
}

// What Open answers is new memory: of the plate, of other answers, of one
// another.
func TestAnswersAreNewMemory(t *testing.T) {
	want := records(41, 80, 1, 2)
	p := plateOf(t, imageOf(20, head{1, 1, 15, 3}, want...))
	w, one := opened(t, p)
	_, other := opened(t, p)
	for i := range one {
		kept := whole(one)
		b := one[i][:cap(one[i])]
		for k := range b {
			b[k] ^= 0xff
		}
		for j := range one {
			if j != i && !bytes.Equal(one[j][:cap(one[j])], kept[j]) {
				t.Fatalf("records %d and %d share memory", i, j)
			}
		}
	}
	spoil(one)
	if !same(other, want) {
		t.Fatal("Open answers memory of another answer")
	}
	tells(t, "answers spoilt", p, want)
	counts(t, "answers spoilt", w, 2, 6, 12)
}

// An answer stays as it was told, whatever becomes of the plate.
func TestAnswersAreNotChanged(t *testing.T) {
	want := records(41, 80, 1)
	p := plateOf(t, imageOf(10, head{1, 1, 0, 1}, want...))
	w, recs := opened(t, p)
	is(t, "Checkpoint", w.Checkpoint(records(100)), api.OK)
	is(t, "Checkpoint", w.Checkpoint(records(200)), api.OK)
	p.Fail()
	if !same(recs, want) {
		t.Error("an answer changes with the plate")
	}
}

// A wal works on the plate that it was handed, not on a copy.
func TestPlateIsTheOneHandedIn(t *testing.T) {
	p := newPlate(t, 8)
	w, _, e := wal.Open(p)
	is(t, "Open", e, api.OK)
	q := p.Copy()
	w.Append([]byte{1})
	if len(p.Dirty()) != 1 || len(q.Dirty()) != 0 {
		t.Error("Append writes elsewhere")
	}
}
