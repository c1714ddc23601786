package wal

import (
	"errors"

	"amphora/api"
)

// open takes what the plate has, or begins a log on one of noughts; its records.
func (w *Wal) open() ([][]byte, error) {
	h, err := w.newest()
	if errors.Is(err, api.ErrLog) {
		return nil, w.begin()
	}
	if err != nil {
		return nil, err
	}
	if h.number >= api.MaxNumber || h.life >= api.MaxNumber || h.first+w.size >= api.MaxNumber {
		return nil, fault(h.number%heads, api.ErrFull)
	}
	return w.resume(h)
}

// begin writes the first head, if nothing was ever written.
func (w *Wal) begin() error {
	for i := range heads + w.size {
		b, err := w.read(i)
		if err != nil {
			return err
		}
		if !isBlank(b) {
			return fault(i, api.ErrLog)
		}
	}
	w.free = placesFrom(0, w.size)
	return w.turn(head{number: 1, life: 1, place: 0, first: 1})
}

// resume takes the records of a head. What a crash left behind them is cleaned
// ahead of anything else, as it could be taken for a later record's sectors.
func (w *Wal) resume(h head) ([][]byte, error) {
	recs, used, err := w.records(h)
	if err != nil {
		return nil, err
	}
	w.free = placesFrom(h.place+used, w.size-used)
	w.last = h.first - 1 + len(recs)
	if err := w.clean(w.free); err != nil {
		return nil, err
	}
	h.number++
	h.life++
	return recs, w.turn(h)
}
