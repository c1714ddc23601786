package shelf_test

import (
	"bytes"
	"fmt"
	"slices"
	"testing"

	"amphora/api"
	"amphora/plate"
	"amphora/shelf"
)

// cuts is how many bytes of a torn sector stay.
func cuts() []int { return []int{0, 1, 12, 30, 58, 59, 63, 64} }

// subsets is all choices of numbers; of many, some that are scattered, among
// them none and all.
func subsets(l []int) [][]int {
	all := [][]int{nil}
	if len(l) <= 4 {
		for _, x := range l {
			for _, s := range all[:len(all):len(all)] {
				all = append(all, append(slices.Clone(s), x))
			}
		}
		return all
	}
	all = append(all, l, l[1:], l[:len(l)-1])
	d := dice(len(l))
	for range 12 {
		all = append(all, slices.DeleteFunc(slices.Clone(l), func(int) bool { return d.below(2) == 0 }))
	}
	return all
}

// crashes is copies of a plate, each crashed in another way: any dirty sectors
// kept, any one torn.
func crashes(p *plate.Plate, check func(name string, q *plate.Plate)) {
	crash := func(keep []int, torn, n int) {
		q := p.Copy()
		q.Crash(keep, torn, n)
		check(fmt.Sprintf("kept %v of %v, %d bytes of %d", keep, p.Dirty(), n, torn), q)
	}
	for _, keep := range subsets(p.Dirty()) {
		crash(keep, -1, 0)
		for _, torn := range p.Dirty() {
			if slices.Contains(keep, torn) {
				continue
			}
			for _, n := range cuts() {
				crash(keep, torn, n)
			}
		}
	}
}

// stockOf is what a shelf tells, of the dice's shards.
func stockOf(s *shelf.Shelf) stock {
	got := newStock()
	for _, h := range s.Held() {
		got.shards[key{h.Blob, h.Index}] = h.Bytes
	}
	for _, blob := range []int{0, 1, 255, 256, most} {
		for _, index := range []int{0, 7} {
			got.fences[key{blob, index}] = s.Fenced(blob, index)
		}
	}
	for _, n := range s.Notes() {
		got.notes[n] = s.Noted(n)
	}
	return got
}

// oneOf asks whether a shelf that is opened has what it had at some time.
func oneOf(t *testing.T, name string, p *plate.Plate, times []stock) {
	t.Helper()
	got := stockOf(opened(t, p)).records()
	for _, s := range times {
		if slices.EqualFunc(got, s.records(), bytes.Equal) {
			return
		}
	}
	t.Fatalf("%s: it has\n%x, which it had at none of %d times", name, got, len(times))
}

// P8.5: crashes behind any calls: what was synced, and a beginning of what came
// later.
func TestCrashes(t *testing.T) {
	for seed := range 40 {
		d := dice(7000 + seed)
		a := newPair(t, 10+seed)
		for range 20 {
			step(&d, a)
		}
		a.sync()
		times := []stock{a.model.stock}
		for range 8 {
			step(&d, a)
			if len(a.plate.Dirty()) == 0 {
				times = nil // all is durable: only what it has now counts
			}
			times = append(times, a.model.stock)
			crashes(a.plate, func(name string, q *plate.Plate) { oneOf(t, name, q, times) })
		}
	}
}

// P8.5: what is synced is all there, whatever is lost.
func TestSyncedIsThere(t *testing.T) {
	a := newPair(t, 40)
	a.store(key{1, 0}, 0, some(100, 1))
	a.store(key{1, 7}, 0, some(10, 2))
	a.fence(key{1, 7}, 3)
	a.drop(key{1, 0})
	a.note(9, nil)
	a.sync()
	synced := a.model.stock
	a.drop(key{1, 7})
	a.store(key{255, 0}, 0, some(10, 3))
	a.note(9, some(2, 2))
	p := a.plate.Copy()
	p.Crash(nil, -1, 0)
	oneOf(t, "all lost", p, []stock{synced})
	p = a.plate.Copy()
	p.Crash(p.Dirty(), -1, 0)
	oneOf(t, "all kept", p, []stock{a.model.stock})
	p = a.plate.Copy()
	p.Crash(p.Dirty()[1:], -1, 0)
	oneOf(t, "the first one lost", p, []stock{synced})
}

// P8.5: records of a checkpoint that stand behind those ahead of it, as a crash
// within leaves them, change nothing.
func TestBeginningsOfACheckpoint(t *testing.T) {
	a := newPair(t, 60)
	a.store(key{1, 0}, 0, some(50, 1))
	a.store(key{1, 7}, 0, some(10, 2))
	a.store(key{256, 0}, 0, some(10, 3))
	a.drop(key{1, 7})
	a.fence(key{256, 0}, 3)
	a.fence(key{256, 0}, 5)
	a.fence(key{1, 7}, 1)
	a.note(4, some(9, 9))
	a.note(4, nil)
	a.note(0, some(9, 9))
	ahead := [][]byte{
		shardRec(1, 0, some(50, 1)), shardRec(1, 7, some(10, 2)), shardRec(256, 0, some(10, 3)),
		dropRec(1, 7), fenceRec(256, 0, 3), fenceRec(256, 0, 5), fenceRec(1, 7, 1),
		noteRec(4, some(9, 9)), noteRec(4, nil), noteRec(0, some(9, 9)),
	}
	tells(t, "ahead", a.plate, ahead...)
	all := a.model.stock.records()
	for k := range len(all) + 1 {
		p := logged(t, 60, append(slices.Clone(ahead), all[:k]...)...)
		oneOf(t, fmt.Sprintf("%d of a checkpoint", k), p, []stock{a.model.stock})
	}
	oneOf(t, "a checkpoint alone", logged(t, 60, all...), []stock{a.model.stock})
}

// P8.6: behind Fence, and a crash that keeps it, requests below it are refused.
func TestFenceBehindACrash(t *testing.T) {
	p, s := shelfOf(t, 20)
	is(t, "Store", s.Store(5, 0, 1, []byte("b")), api.OK)
	is(t, "Fence", s.Fence(5, 0, 3), api.OK)
	is(t, "Drop", s.Drop(5, 0), api.OK)
	is(t, "Sync", s.Sync(), api.OK)
	p.Crash(nil, -1, 0)
	s = opened(t, p)
	is(t, "Store below", s.Store(5, 0, 2, []byte("b")), api.ErrFenced)
	fetches(t, s, key{5, 0}, 2, nil, api.ErrFenced)
	fetches(t, s, key{5, 0}, 3, nil, api.ErrAbsent)
	is(t, "Store", s.Store(5, 0, 3, []byte("c")), api.OK)
	fetches(t, s, key{5, 0}, 3, []byte("c"), api.OK)
}
