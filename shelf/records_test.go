package shelf_test

import (
	"bytes"
	"encoding/binary"
	"slices"
	"testing"

	"amphora/api"
	"amphora/plate"
	"amphora/shelf"
	"amphora/wal"
)

// most is the greatest number, long how many bytes a shard and a note have at
// most.
const (
	most = api.MaxNumber
	long = 1980
)

// number is a number's bytes.
func number(n int) []byte {
	digits := bytes.TrimLeft(binary.BigEndian.AppendUint64(nil, uint64(n)), "\x00")
	return append([]byte{byte(len(digits))}, digits...)
}

func joined(parts ...[]byte) []byte { return bytes.Join(parts, nil) }

// The records, by the chapter.
func shardRec(blob, index int, b []byte) []byte {
	return joined([]byte{1}, number(blob), number(index), b)
}

func dropRec(blob, index int) []byte { return joined([]byte{2}, number(blob), number(index)) }

func fenceRec(blob, index, epoch int) []byte {
	return joined([]byte{3}, number(blob), number(index), number(epoch))
}

func noteRec(n int, b []byte) []byte { return joined([]byte{4}, number(n), b) }

// some is so many bytes that hang on the seed.
func some(length int, seed uint32) []byte {
	b := make([]byte, length)
	for i := range b {
		seed = seed*1664525 + 1013904223
		b[i] = byte(seed >> 24)
	}
	return b
}

// is tells of another error than the one that is wanted.
func is(t *testing.T, name string, got, want api.Errno) {
	t.Helper()
	if got != want {
		t.Fatalf("%s: error %d, want %d", name, got, want)
	}
}

func newPlate(t *testing.T, sectors int) *plate.Plate {
	t.Helper()
	p, e := plate.New(sectors)
	is(t, "New", e, api.OK)
	return p
}

// logged is a plate of so many sectors whose log has these records.
func logged(t *testing.T, sectors int, recs ...[]byte) *plate.Plate {
	t.Helper()
	p := newPlate(t, sectors)
	w, _, e := wal.Open(p)
	is(t, "wal.Open", e, api.OK)
	for _, rec := range recs {
		_, e := w.Append(rec)
		is(t, "wal.Append", e, api.OK)
	}
	is(t, "wal.Sync", w.Sync(), api.OK)
	return p
}

func opened(t *testing.T, p *plate.Plate) *shelf.Shelf {
	t.Helper()
	s, e := shelf.Open(p)
	is(t, "Open", e, api.OK)
	return s
}

// shelfOf is a shelf on a new plate.
func shelfOf(t *testing.T, sectors int) (*plate.Plate, *shelf.Shelf) {
	t.Helper()
	p := newPlate(t, sectors)
	return p, opened(t, p)
}

// tells is the records of a plate's log.
func tells(t *testing.T, name string, p *plate.Plate, want ...[]byte) {
	t.Helper()
	_, recs, e := wal.Open(p.Copy())
	if e != api.OK || !slices.EqualFunc(recs, want, bytes.Equal) {
		t.Fatalf("%s: error %d, records\n%x, want\n%x", name, e, recs, want)
	}
}

// key is a shard's name.
type key struct{ blob, index int }

// stock is what a shelf has.
type stock struct {
	shards map[key][]byte
	fences map[key]int
	notes  map[int][]byte
}

func newStock() stock { return stock{map[key][]byte{}, map[key]int{}, map[int][]byte{}} }

// records is all that it has.
func (s stock) records() [][]byte {
	var l [][]byte
	for _, k := range sorted(s.shards) {
		l = append(l, shardRec(k.blob, k.index, s.shards[k]))
	}
	for _, k := range sorted(s.fences) {
		if s.fences[k] > 0 {
			l = append(l, fenceRec(k.blob, k.index, s.fences[k]))
		}
	}
	for n := range rising(s.notes) {
		l = append(l, noteRec(n, s.notes[n]))
	}
	return l
}

// has asks whether a shelf has just this.
func has(t *testing.T, name string, s *shelf.Shelf, want stock) {
	t.Helper()
	held := s.Held()
	keys := sorted(want.shards)
	if len(held) != len(keys) {
		t.Fatalf("%s: %d shards, want %d", name, len(held), len(keys))
	}
	for i, k := range keys {
		h := held[i]
		if h.Blob != k.blob || h.Index != k.index || !bytes.Equal(h.Bytes, want.shards[k]) {
			t.Fatalf("%s: shard %d, %d of %x, want %v of %x", name, h.Blob, h.Index, h.Bytes, k, want.shards[k])
		}
		if b, e := s.Fetch(k.blob, k.index, most); e != api.OK || !bytes.Equal(b, h.Bytes) {
			t.Fatalf("%s: Fetch of %v: %x, error %d", name, k, b, e)
		}
	}
	for k, epoch := range want.fences {
		if s.Fenced(k.blob, k.index) != epoch {
			t.Fatalf("%s: the fence of %v is %d, want %d", name, k, s.Fenced(k.blob, k.index), epoch)
		}
	}
	if want := slices.Collect(rising(want.notes)); !slices.Equal(s.Notes(), want) {
		t.Fatalf("%s: notes %v, want %v", name, s.Notes(), want)
	}
	for n, b := range want.notes {
		if !bytes.Equal(s.Noted(n), b) {
			t.Fatalf("%s: note %d is %x, want %x", name, n, s.Noted(n), b)
		}
	}
}

// unchanged asks whether a plate is as it was.
func unchanged(t *testing.T, name string, p, before *plate.Plate) {
	t.Helper()
	if !slices.Equal(p.Dirty(), before.Dirty()) {
		t.Fatalf("%s: dirty %v, want %v", name, p.Dirty(), before.Dirty())
	}
	image := p.Image()
	for i, want := range before.Image() {
		if !bytes.Equal(image[i], want) {
			t.Fatalf("%s: durable sector %d is\n%x, want\n%x", name, i, image[i], want)
		}
		got, _ := p.Read(i)
		want, _ := before.Read(i)
		if !bytes.Equal(got, want) {
			t.Fatalf("%s: sector %d is\n%x, want\n%x", name, i, got, want)
		}
	}
}
