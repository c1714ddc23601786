package shelf_test

import (
	"bytes"
	"cmp"
	"iter"
	"maps"
	"slices"
	"testing"

	"amphora/api"
	"amphora/plate"
	"amphora/shelf"
	"amphora/wal"
)

// sorted is the keys of a map, by blob, then by index.
func sorted[T any](m map[key]T) []key {
	return slices.SortedFunc(maps.Keys(m), func(a, b key) int {
		return cmp.Or(cmp.Compare(a.blob, b.blob), cmp.Compare(a.index, b.index))
	})
}

// rising is the keys of a map.
func rising[T any](m map[int]T) iter.Seq[int] { return slices.Values(slices.Sorted(maps.Keys(m))) }

func (s stock) copy() stock {
	return stock{maps.Clone(s.shards), maps.Clone(s.fences), maps.Clone(s.notes)}
}

// needs is how many sectors records have.
func needs(recs ...[]byte) int {
	n := 0
	for _, rec := range recs {
		n += (len(rec) + 39) / 40
	}
	return n
}

// model is a shelf by the chapter's words, with a log on a plate of its own.
type model struct {
	stock
	plate *plate.Plate
	log   *wal.Wal
}

// write appends a record that turns the stock, if there is room.
func (m *model) write(rec []byte, turn func(s stock)) api.Errno {
	then := m.stock.copy()
	turn(then)
	want := needs(rec) + needs(then.records()...)
	if m.log.Room() < want {
		if e := m.log.Checkpoint(m.stock.records()); e != api.OK {
			return e
		}
		if m.log.Room() < want {
			return api.ErrFull
		}
	}
	if _, e := m.log.Append(rec); e != api.OK {
		return e
	}
	m.stock = then
	return api.OK
}

func (m *model) store(k key, epoch int, b []byte) api.Errno {
	if len(b) < 1 || len(b) > long {
		return api.ErrArg
	}
	if epoch < m.fences[k] {
		return api.ErrFenced
	}
	if there, ok := m.shards[k]; ok {
		if bytes.Equal(there, b) {
			return api.OK
		}
		return api.ErrThere
	}
	return m.write(shardRec(k.blob, k.index, b), func(s stock) { s.shards[k] = b })
}

func (m *model) drop(k key) api.Errno {
	if _, ok := m.shards[k]; !ok {
		return api.ErrAbsent
	}
	return m.write(dropRec(k.blob, k.index), func(s stock) { delete(s.shards, k) })
}

func (m *model) fence(k key, epoch int) api.Errno {
	if m.fences[k] >= epoch {
		return api.OK
	}
	return m.write(fenceRec(k.blob, k.index, epoch), func(s stock) { s.fences[k] = epoch })
}

func (m *model) note(n int, b []byte) api.Errno {
	if len(b) > long {
		return api.ErrArg
	}
	if there, ok := m.notes[n]; ok && bytes.Equal(there, b) {
		return api.OK
	}
	return m.write(noteRec(n, b), func(s stock) { s.notes[n] = b })
}

// pair is a shelf on its plate, and a model beside it.
type pair struct {
	t     *testing.T
	shelf *shelf.Shelf
	plate *plate.Plate
	model *model
}

// newPair is a shelf and a model on new plates.
func newPair(t *testing.T, sectors int) *pair {
	t.Helper()
	p := newPlate(t, sectors)
	a := &pair{t: t, plate: p, model: &model{stock: newStock(), plate: p.Copy()}}
	a.open()
	return a
}

// open opens both, whose logs tell what the model's stock is.
func (a *pair) open() {
	a.t.Helper()
	w, _, e := wal.Open(a.model.plate)
	is(a.t, "wal.Open", e, api.OK)
	a.model.log = w
	a.shelf = opened(a.t, a.plate)
	a.after("Open", api.OK, api.OK)
}

func (a *pair) store(k key, epoch int, b []byte) {
	a.t.Helper()
	a.after("Store", a.shelf.Store(k.blob, k.index, epoch, b), a.model.store(k, epoch, b))
}

func (a *pair) drop(k key) {
	a.t.Helper()
	a.after("Drop", a.shelf.Drop(k.blob, k.index), a.model.drop(k))
}

func (a *pair) fence(k key, epoch int) {
	a.t.Helper()
	a.after("Fence", a.shelf.Fence(k.blob, k.index, epoch), a.model.fence(k, epoch))
}

func (a *pair) note(n int, b []byte) {
	a.t.Helper()
	a.after("Note", a.shelf.Note(n, b), a.model.note(n, b))
}

func (a *pair) sync() {
	a.t.Helper()
	a.after("Sync", a.shelf.Sync(), a.model.log.Sync())
}

// after holds all that can be told against the model: the error, the plate's
// sectors, what the shelf has.
func (a *pair) after(name string, got, want api.Errno) {
	a.t.Helper()
	is(a.t, name, got, want)
	unchanged(a.t, name, a.plate, a.model.plate)
	has(a.t, name, a.shelf, a.model.stock)
	if a.shelf.Life() != a.model.log.Life() {
		a.t.Fatalf("%s: life %d, want %d", name, a.shelf.Life(), a.model.log.Life())
	}
}

// dice is numbers that hang on the seed alone.
type dice uint32

func (d *dice) below(n int) int {
	*d = *d*1664525 + 1013904223
	return int(*d>>8) % n
}

// key is one of few shards, so that one is often asked for again.
func (d *dice) key() key { return key{[]int{0, 1, 255, 256, most}[d.below(5)], d.below(2) * 7} }

// bytes is most often few, of few kinds.
func (d *dice) bytes() []byte {
	length := d.below(60)
	if d.below(10) == 0 {
		length = d.below(300)
	}
	return some(length, uint32(d.below(3)))
}

// step turns a shelf and its model alike.
func step(d *dice, a *pair) {
	a.t.Helper()
	switch d.below(12) {
	case 0, 1, 2:
		a.store(d.key(), d.below(5), d.bytes())
	case 3, 4:
		a.drop(d.key())
	case 5, 6:
		a.fence(d.key(), d.below(5))
	case 7, 8, 9:
		a.note([]int{0, 3, most}[d.below(3)], d.bytes())
	case 10:
		a.sync()
	default:
		if d.below(3) == 0 {
			a.sync()
			is(a.t, "Crash", a.plate.Crash(nil, -1, 0), api.OK)
			is(a.t, "Crash", a.model.plate.Crash(nil, -1, 0), api.OK)
		}
		a.open()
	}
}

// P8.2, P8.3, P8.4: scripts of all calls, on plates where there is often no
// room, and on some where there always is.
func TestScripts(t *testing.T) {
	for seed := range 150 {
		d := dice(seed)
		a := newPair(t, 6+3*(seed%12)+seed%50)
		for range 120 {
			step(&d, a)
		}
	}
}
