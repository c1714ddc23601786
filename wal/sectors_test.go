package wal_test

import (
	"bytes"
	"encoding/binary"
	"hash/crc32"
	"slices"
	"testing"

	"amphora/api"
	"amphora/plate"
	"amphora/wal"
)

// most is the greatest number.
const most = api.MaxNumber

// head is a head's numbers.
type head struct{ number, life, place, first int }

// sealed is a sector of its first bytes, by the chapter: noughts, the sum of
// the first 59, the last byte.
func sealed(b ...byte) []byte {
	b = append(bytes.Clone(b), make([]byte, 59-len(b))...)
	sum := crc32.Checksum(b, crc32.MakeTable(crc32.Castagnoli))
	return append(binary.BigEndian.AppendUint32(b, sum), 0xa7)
}

// resealed is a sector with one byte another one, and the sum of that.
func resealed(sector []byte, at int, x byte) []byte {
	b := bytes.Clone(sector[:59])
	b[at] = x
	return sealed(b...)
}

// turned is a sector with one byte turned.
func turned(sector []byte, at int, by byte) []byte {
	b := bytes.Clone(sector)
	b[at] ^= by
	return b
}

func (h head) sector() []byte {
	b := []byte{0x68}
	for _, n := range []int{h.number, h.life, h.place, h.first} {
		b = binary.BigEndian.AppendUint64(b, uint64(n))
	}
	return sealed(b...)
}

// piece is a record's sector of any parts.
func piece(number, count, first, last int, rec ...byte) []byte {
	b := binary.BigEndian.AppendUint64([]byte{0x72}, uint64(number))
	return sealed(append(append(b, byte(count), byte(first), byte(last)), rec...)...)
}

// sectorsOf is a record's sectors.
func sectorsOf(number int, rec []byte) [][]byte {
	var l [][]byte
	for from := 0; from < len(rec); from += 40 {
		to, first, last := from+40, 0, 0
		if from == 0 {
			first = 1
		}
		if to >= len(rec) {
			to, last = len(rec), 1
		}
		l = append(l, piece(number, to-from, first, last, rec[from:to]...))
	}
	return l
}

func noughts() []byte { return make([]byte, 64) }

// bare is an image of noughts.
func bare(sectors int) [][]byte {
	image := make([][]byte, sectors)
	for i := range image {
		image[i] = noughts()
	}
	return image
}

// imageOf is one with a head where it belongs, and records from its place on.
func imageOf(sectors int, h head, recs ...[]byte) [][]byte {
	image := bare(sectors)
	image[h.number%2] = h.sector()
	place := h.place
	for i, rec := range recs {
		for _, b := range sectorsOf(h.first+i, rec) {
			image[2+place%(sectors-2)] = b
			place++
		}
	}
	return image
}

// record is so many bytes that hang on the seed.
func record(length int, seed uint32) []byte {
	b := make([]byte, length)
	for i := range b {
		seed = seed*1664525 + 1013904223
		b[i] = byte(seed >> 24)
	}
	return b
}

// records is some, by their lengths.
func records(lengths ...int) [][]byte {
	var l [][]byte
	for i, n := range lengths {
		l = append(l, record(n, uint32(100+i)))
	}
	return l
}

func same(a, b [][]byte) bool { return slices.EqualFunc(a, b, bytes.Equal) }

func newPlate(t *testing.T, sectors int) *plate.Plate {
	t.Helper()
	p, e := plate.New(sectors)
	is(t, "New", e, api.OK)
	return p
}

func plateOf(t *testing.T, image [][]byte) *plate.Plate {
	t.Helper()
	p, e := plate.Of(image)
	is(t, "Of", e, api.OK)
	return p
}

// is tells of another error than the one that is wanted.
func is(t *testing.T, name string, got, want api.Errno) {
	t.Helper()
	if got != want {
		t.Fatalf("%s: error %d, want %d", name, got, want)
	}
}

// opened is a wal of a plate that can be opened, and its records.
func opened(t *testing.T, p *plate.Plate) (*wal.Wal, [][]byte) {
	t.Helper()
	w, recs, e := wal.Open(p)
	is(t, "Open", e, api.OK)
	return w, recs
}

// counts asks for the numbers that a wal tells.
func counts(t *testing.T, name string, w *wal.Wal, life, last, room int) {
	t.Helper()
	if w.Life() != life || w.Last() != last || w.Room() != room {
		t.Fatalf("%s: life %d, last %d, room %d, want %d, %d, %d", name, w.Life(), w.Last(), w.Room(), life, last, room)
	}
}

// looks asks whether a plate has just an image, all of it durable.
func looks(t *testing.T, name string, p *plate.Plate, image [][]byte) {
	t.Helper()
	if len(p.Dirty()) > 0 {
		t.Fatalf("%s: dirty sectors %v", name, p.Dirty())
	}
	got := p.Image()
	for i := range image {
		if !bytes.Equal(got[i], image[i]) {
			t.Fatalf("%s: sector %d is\n%x, want\n%x", name, i, got[i], image[i])
		}
	}
}

// tells asks whether Open tells just these records.
func tells(t *testing.T, name string, p *plate.Plate, want [][]byte) *wal.Wal {
	t.Helper()
	w, recs, e := wal.Open(p)
	if e != api.OK || !same(recs, want) {
		t.Fatalf("%s: error %d, records of %v bytes, want %v", name, e, lengths(recs), lengths(want))
	}
	return w
}

func lengths(recs [][]byte) []int {
	var l []int
	for _, rec := range recs {
		l = append(l, len(rec))
	}
	return l
}

// refuses asks whether Open answers an error, tells nothing and leaves the
// plate as it is.
func refuses(t *testing.T, name string, p *plate.Plate, want api.Errno) {
	t.Helper()
	image, dirty := p.Image(), p.Dirty()
	w, recs, e := wal.Open(p)
	if w != nil || len(recs) != 0 || e != want {
		t.Fatalf("%s: error %d, want %d, with a wal %t, %d records", name, e, want, w != nil, len(recs))
	}
	if !same(p.Image(), image) || !slices.Equal(p.Dirty(), dirty) {
		t.Fatalf("%s: the plate is another one", name)
	}
}
