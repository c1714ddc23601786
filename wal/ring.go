package wal

import (
	"container/heap"
	"errors"
	"slices"

	"amphora/api"
	"amphora/plate"
)

// A plate has so many heads, ahead of the ring, and at least so many sectors.
const (
	heads  = 2
	fewest = 6
)

// ring is the sectors of a plate, those behind the heads counted round.
type ring struct {
	disk *plate.Plate
	size int // sectors behind the heads
}

// sector is that of a place.
func (r ring) sector(place int) int { return heads + place%r.size }

// fault wraps an error's number with the sector where it was told.
func fault(sector int, e api.Errno) error {
	if e == api.OK {
		return nil
	}
	return api.Fault{At: sector, Why: e}
}

// number is the one that was wrapped.
func number(err error) api.Errno {
	for _, e := range [...]api.Errno{api.ErrArg, api.ErrNil, api.ErrFull, api.ErrDead, api.ErrLog} {
		if errors.Is(err, e) {
			return e
		}
	}
	return api.OK
}

func (r ring) read(sector int) ([]byte, error) {
	b, e := r.disk.Read(sector)
	return b, fault(sector, e)
}

func (r ring) write(sector int, b []byte) error { return fault(sector, r.disk.Write(sector, b)) }

func (r ring) sync() error { return fault(0, r.disk.Sync()) }

// writeHead writes a head over noughts that are durable, so that one that is
// torn has no last byte.
func (r ring) writeHead(h head) error {
	for _, b := range [][]byte{blank(), h.sector()} {
		if err := r.write(h.number%heads, b); err != nil {
			return err
		}
		if err := r.sync(); err != nil {
			return err
		}
	}
	return nil
}

// newest is the right head with the greater number; ErrLog, if none is right.
func (r ring) newest() (head, error) {
	var newest head
	for i := range heads {
		b, err := r.read(i)
		if err != nil {
			return head{}, err
		}
		if h := headOf(b); h.right(b, i, r.size) && h.number > newest.number {
			newest = h
		}
	}
	if newest.number == 0 {
		return head{}, fault(0, api.ErrLog)
	}
	return newest, nil
}

// records is those that count by a head, and how many sectors they have.
func (r ring) records(h head) ([][]byte, int, error) {
	var recs [][]byte
	used := 0
	for {
		rec, err := r.record(h.place+used, h.first+len(recs), r.size-used)
		if errors.Is(err, api.ErrLog) {
			return recs, used, nil
		}
		if err != nil {
			return nil, 0, err
		}
		recs = append(recs, rec)
		used += sectorsOf(rec)
	}
}

// record is the one of a number from a place on, of at most so many sectors;
// ErrLog, if it is not all there.
func (r ring) record(place, number, most int) ([]byte, error) {
	var rec []byte
	for i := range min(most, mostSectors) {
		b, err := r.read(r.sector(place + i))
		if err != nil {
			return nil, err
		}
		p := pieceOf(b)
		if !p.right(b) || p.number != number || p.first != (i == 0) {
			break
		}
		rec = append(rec, p.bytes...)
		if p.last {
			return rec, nil
		}
	}
	return nil, fault(r.sector(place), api.ErrLog)
}

// clean has free places be noughts again.
func (r ring) clean(free places) error {
	for left := slices.Clone(free); left.Len() > 0; {
		sector := r.sector(heap.Pop(&left).(int))
		b, err := r.read(sector)
		if err != nil {
			return err
		}
		if isBlank(b) {
			continue
		}
		if err := r.write(sector, blank()); err != nil {
			return err
		}
	}
	return r.sync()
}

// places is a heap of places of the ring. They are counted on beyond its end,
// so that the least one is the next behind the records.
type places []int

// placesFrom is so many from one on.
func placesFrom(first, count int) places {
	p := make(places, 0, count)
	for i := range count {
		heap.Push(&p, first+i)
	}
	return p
}

func (p places) Len() int           { return len(p) }
func (p places) Less(i, j int) bool { return p[i] < p[j] }
func (p places) Swap(i, j int)      { p[i], p[j] = p[j], p[i] }

func (p *places) Push(x any) { *p = append(*p, x.(int)) }

func (p *places) Pop() any {
	end := len(*p) - 1
	x := (*p)[end]
	*p = (*p)[:end]
	return x
}
