package wal_test

import "testing"

// dice is numbers that hang on the seed alone.
type dice uint32

func (d *dice) below(n int) int {
	*d = *d*1664525 + 1013904223
	return int(*d>>8) % n
}

// length is that of a record, most often of few sectors, or next to a full one.
func (d *dice) length() int {
	switch d.below(12) {
	case 0:
		return 1960 + d.below(43)
	case 1:
		return d.below(400)
	case 2, 3, 4:
		return 40*d.below(4) + d.below(3)
	}
	return 1 + d.below(90)
}

func (d *dice) record() []byte { return record(d.length(), uint32(*d)) }

func (d *dice) records() [][]byte {
	var l [][]byte
	for range d.below(5) {
		l = append(l, d.record())
	}
	return l
}

// some is some of the numbers.
func (d *dice) some(l []int) []int {
	var s []int
	for _, x := range l {
		if d.below(2) == 0 {
			s = append(s, x)
		}
	}
	return s
}

// step turns a wal and its model alike.
func step(d *dice, a *pair) {
	a.t.Helper()
	switch d.below(10) {
	case 0:
		a.sync()
	case 1, 2:
		a.checkpoint(d.records()...)
	case 3:
		dirty := a.mine.Dirty()
		torn := -1
		if len(dirty) > 0 {
			torn = dirty[d.below(len(dirty))]
		}
		a.crash(d.some(dirty), torn, d.below(65))
		a.open()
	case 4:
		a.open()
	default:
		a.append(d.record())
	}
}

// P7.1, P7.2, P7.3: scripts of all calls, with crashes, on small plates and on
// some where the longest records have room.
func TestScripts(t *testing.T) {
	for seed := range 120 {
		d := dice(seed)
		sectors := 6 + seed%13
		if seed%4 == 0 {
			sectors = 50 + seed
		}
		a := newPair(t, bare(sectors))
		for range 120 {
			step(&d, a)
		}
	}
}

// P7.1: scripts that begin on plates of many kinds of heads and sectors.
func TestScriptsOnOtherPlates(t *testing.T) {
	for seed := range 200 {
		d := dice(1000 + seed)
		sectors := 6 + d.below(10)
		h := head{1 + d.below(50), 1 + d.below(50), d.below(sectors - 2), 1 + d.below(50)}
		var recs [][]byte
		for left := sectors - 2; ; {
			rec := record(1+d.below(100), uint32(d.below(1000)))
			if left -= needs(rec); left < 0 || d.below(4) == 0 {
				break
			}
			recs = append(recs, rec)
		}
		image := imageOf(sectors, h, recs...)
		for range d.below(4) {
			at := d.below(sectors)
			image[at] = turned(image[at], d.below(64), byte(1+d.below(255)))
		}
		a := &pair{t: t, mine: plateOf(t, image), ours: plateOf(t, image)}
		if !a.open() {
			continue
		}
		for range 40 {
			step(&d, a)
		}
	}
}
