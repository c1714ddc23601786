package wal_test

import (
	"fmt"
	"slices"
	"testing"

	"amphora/api"
	"amphora/plate"
)

// cuts is how many bytes of a torn sector stay: at the edges of its parts.
func cuts() []int { return []int{0, 1, 8, 9, 10, 12, 13, 33, 58, 59, 60, 62, 63, 64} }

// subsets is all choices of numbers; of many, some that are scattered, among
// them none and all.
func subsets(l []int) [][]int {
	if len(l) > 5 {
		all := [][]int{nil, l, l[1:], l[:len(l)-1]}
		d := dice(len(l))
		for range 28 {
			all = append(all, d.some(l))
		}
		return all
	}
	all := [][]int{nil}
	for _, x := range l {
		for _, s := range all[:len(all):len(all)] {
			all = append(all, append(slices.Clone(s), x))
		}
	}
	return all
}

// crashes is copies of a plate, each crashed in another way: any dirty sectors
// kept, any one torn.
func crashes(p *plate.Plate, check func(name string, q *plate.Plate)) {
	for _, keep := range subsets(p.Dirty()) {
		check(fmt.Sprintf("kept %v of %v", keep, p.Dirty()), crashed(p, keep, -1, 0))
		for _, torn := range p.Dirty() {
			if slices.Contains(keep, torn) {
				continue
			}
			for _, n := range cuts() {
				check(fmt.Sprintf("kept %v of %v, %d bytes of %d", keep, p.Dirty(), n, torn), crashed(p, keep, torn, n))
			}
		}
	}
}

// between is all crashes within writes and syncs, on a plate as it was ahead.
func between(t *testing.T, ahead *plate.Plate, ops []op, check func(name string, q *plate.Plate)) {
	t.Helper()
	for done := range len(ops) + 1 {
		p := ahead.Copy()
		carry(t, p, ops[:done])
		crashes(p, func(name string, q *plate.Plate) {
			check(fmt.Sprintf("behind %d of %d, %s", done, len(ops), name), q)
		})
	}
}

// beginning tells whether recs begin with least, and are a beginning of all.
func beginning(recs, least, all [][]byte) bool {
	return len(recs) >= len(least) && len(recs) <= len(all) && same(recs, all[:len(recs)])
}

// usable asks whether a plate's log, whatever it tells, goes on as it should:
// a greater life, and what is appended and synced is told.
func usable(t *testing.T, name string, p *plate.Plate, life int) [][]byte {
	t.Helper()
	w, recs := opened(t, p)
	if w.Life() <= life {
		t.Fatalf("%s: life %d behind %d", name, w.Life(), life)
	}
	life = w.Life()
	more := record(41, 77)
	if w.Room() < 2 {
		return recs
	}
	if _, e := w.Append(more); e != api.OK || w.Sync() != api.OK {
		t.Fatalf("%s: Append: error %d", name, e)
	}
	p.Crash(nil, -1, 0)
	w = tells(t, name, p, append(slices.Clone(recs), more))
	if w.Life() <= life {
		t.Fatalf("%s: life %d behind %d", name, w.Life(), life)
	}
	return recs
}

// P7.4, P7.6: crashes within Append: all that was synced, and a beginning of
// what was not.
func TestCrashesOfAppends(t *testing.T) {
	for _, place := range []int{0, 5, 7} {
		a := newPair(t, imageOf(11, head{1, 1, place, 1}))
		for _, rec := range records(41, 20) {
			a.append(rec)
		}
		a.sync()
		ahead := a.mine.Copy()
		var ops []op
		for _, rec := range records(1, 81, 40) {
			a.append(rec)
			ops = append(ops, a.model.ops...)
		}
		all := append(records(41, 20), records(1, 81, 40)...)
		between(t, ahead, ops, func(name string, q *plate.Plate) {
			if recs := usable(t, name, q, 2); !beginning(recs, all[:2], all) {
				t.Fatalf("%s: records of %v bytes", name, lengths(recs))
			}
		})
	}
}

// P7.4: what is kept tells how many records are left: those up to the first
// that is not whole.
func TestCrashKeepsABeginning(t *testing.T) {
	a := newPair(t, bare(9))
	all := records(41, 1, 50)
	for _, rec := range all {
		a.append(rec)
	}
	for kept, left := range map[int]int{0: 0, 1: 0, 2: 1, 3: 2, 4: 2, 5: 3} {
		tells(t, "the first ones", crashed(a.mine, []int{2, 3, 4, 5, 6}[:kept], -1, 0), all[:left])
	}
	for lost, left := range []int{0, 0, 1, 2, 2} {
		keep := slices.Delete([]int{2, 3, 4, 5, 6}, lost, lost+1)
		tells(t, "all but one", crashed(a.mine, keep, -1, 0), all[:left])
		for n := range 64 {
			tells(t, "all but one that is torn", crashed(a.mine, keep, lost+2, n), all[:left])
		}
		tells(t, "all, one of them torn behind its end", crashed(a.mine, keep, lost+2, 64), all)
	}
}

// P7.4: what a crash left of lost records is never taken for a later one's.
func TestLostSectorsAreCleaned(t *testing.T) {
	p := newPlate(t, 9)
	w, _ := opened(t, p)
	w.Append(record(10, 1)) // lost
	w.Append(record(10, 2)) // kept, but behind a gap
	w.Append(record(90, 3))
	p.Crash([]int{3, 4, 5, 6}, -1, 0)
	w = tells(t, "a gap", p, nil)
	want := bare(9)
	want[0], want[1] = head{2, 2, 0, 1}.sector(), head{1, 1, 0, 1}.sector()
	looks(t, "a gap", p, want)
	w.Append(record(10, 4))
	w.Sync()
	p.Crash(nil, -1, 0)
	tells(t, "the gap filled", p, [][]byte{record(10, 4)})
}

// old and new are the records ahead of checkpoints, and theirs.
func oldAndNew() ([][]byte, map[string][][]byte) {
	return records(41, 80, 1), map[string][][]byte{
		"none":      nil,
		"one":       {record(5, 50)},
		"some":      {record(41, 60), record(40, 61)},
		"the whole": {record(120, 70), record(41, 71)},
	}
}

// within is all crashes within one call on a pair.
func within(t *testing.T, a *pair, call func(), check func(name string, q *plate.Plate)) {
	t.Helper()
	ahead := a.mine.Copy()
	call()
	between(t, ahead, a.model.ops, check)
}

// P7.5, P7.6: crashes within Checkpoint: the records ahead, and perhaps some of
// the new ones behind them, or just the new ones.
func TestCrashesOfCheckpoints(t *testing.T) {
	old, news := oldAndNew()
	for name, recs := range news {
		for _, synced := range []bool{true, false} {
			a := newPair(t, imageOf(12, head{1, 1, 8, 1}))
			for _, rec := range old {
				a.append(rec)
			}
			least := [][]byte(nil)
			if synced {
				a.sync()
				least = old
			}
			all := append(slices.Clone(old), recs...)
			within(t, a, func() { a.checkpoint(recs...) }, func(when string, q *plate.Plate) {
				got := usable(t, name+" "+when, q, 2)
				if !same(got, recs) && !beginning(got, least, all) {
					t.Fatalf("%s, %s: records of %v bytes", name, when, lengths(got))
				}
			})
		}
	}
}

// P7.3, P7.5: behind Checkpoint only the new ones are told, whatever stays of
// what comes later.
func TestCheckpointsAreDurable(t *testing.T) {
	old, news := oldAndNew()
	for name, recs := range news {
		a := newPair(t, bare(12))
		for _, rec := range old {
			a.append(rec)
		}
		a.checkpoint(recs...)
		tells(t, name, crashed(a.mine, nil, -1, 0), recs)
		a.append(record(2, 9))
		a.append(record(50, 10))
		all := append(slices.Clone(recs), record(2, 9), record(50, 10))
		crashes(a.mine, func(when string, q *plate.Plate) {
			if got := usable(t, when, q, 1); !beginning(got, recs, all) {
				t.Fatalf("%s, %s: records of %v bytes", name, when, lengths(got))
			}
		})
	}
}

// P7.4, P7.6: crashes within Open: the next one tells the same, and has a
// greater life than the last that was answered.
func TestCrashesOfOpen(t *testing.T) {
	recs := records(41, 80, 1)
	a := newPair(t, bare(11))
	for _, rec := range recs {
		a.append(rec)
	}
	a.sync()
	a.append(record(3, 1))
	a.append(record(90, 2))
	a.crash(a.mine.Dirty()[1:], -1, 0)
	a.wal = nil
	within(t, a, func() { a.open() }, func(name string, q *plate.Plate) {
		if got := usable(t, name, q, 1); !same(got, recs) {
			t.Fatalf("%s: records of %v bytes", name, lengths(got))
		}
	})
}

// P7.1: a crash within the very first Open: noughts, a head, or a torn one,
// which is neither, as no head is right and not all is noughts.
func TestCrashesOfTheFirstOpen(t *testing.T) {
	p := newPlate(t, 6)
	is(t, "Write", p.Write(1, head{1, 1, 0, 1}.sector()), api.OK)
	tells(t, "nothing kept", crashed(p, nil, -1, 0), nil)
	counts(t, "all kept", tells(t, "all kept", crashed(p, []int{1}, -1, 0), nil), 2, 0, 4)
	for n := 1; n < 64; n++ {
		refuses(t, "a torn head", crashed(p, nil, 1, n), api.ErrLog)
	}
	counts(t, "not torn", tells(t, "not torn", crashed(p, nil, 1, 0), nil), 1, 0, 4)
}
