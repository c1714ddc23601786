package wal

import (
	"bytes"
	"slices"

	"amphora/api"
	"amphora/frame"
)

// A sector's parts: the first byte of each kind, how many bytes the sum is of,
// and the last byte, which is no nought, so that a torn sector lacks it.
const (
	headMark   = 0x68
	recordMark = 0x72
	summed     = 59
	sumWidth   = 4
	endMark    = 0xa7
)

// Within a sector: the width of a number, and where a record's parts stand.
const (
	width   = 8
	atCount = 1 + width
	atFirst = atCount + 1
	atLast  = atFirst + 1
	atBytes = atLast + 1
)

// mostSectors is how many the longest record has.
const mostSectors = (api.MaxRecord + api.Load - 1) / api.Load

// isRecord tells whether bytes may be a record.
func isRecord(rec []byte) bool { return len(rec) >= 1 && len(rec) <= api.MaxRecord }

// sectorsOf is how many a record has.
func sectorsOf(rec []byte) int { return (len(rec) + api.Load - 1) / api.Load }

func blank() []byte { return make([]byte, api.Size) }

// isBlank tells whether a sector is noughts.
func isBlank(b []byte) bool { return bytes.Equal(b, blank()) }

// putNumber writes a number over all of b, the highest byte first.
func putNumber(b []byte, n uint64) {
	for i := range b {
		b[i] = byte(n >> (8 * (len(b) - 1 - i)))
	}
}

// numberOf is what putNumber wrote. One that is greater than any int is a
// negative one, and out of each range.
func numberOf(b []byte) int {
	var n uint64
	for _, x := range b {
		n = n<<8 | uint64(x)
	}
	return int(n)
}

// seal ends a sector whose parts are written.
func seal(b []byte) []byte {
	putNumber(b[summed:summed+sumWidth], uint64(frame.Sum(b[:summed])))
	b[api.Size-1] = endMark
	return b
}

// head tells which records count: the first one's place in the ring, and its
// number.
type head struct{ number, life, place, first int }

func (h head) sector() []byte {
	b := blank()
	b[0] = headMark
	for i, n := range [...]int{h.number, h.life, h.place, h.first} {
		putNumber(b[1+i*width:1+(i+1)*width], uint64(n))
	}
	return seal(b)
}

// headOf is the head of a sector, which may be wrong.
func headOf(b []byte) head {
	at := func(i int) int { return numberOf(b[1+i*width : 1+(i+1)*width]) }
	return head{number: at(0), life: at(1), place: at(2), first: at(3)}
}

// right tells whether b, in a sector, is the head, and one of a ring of so
// many sectors.
func (h head) right(b []byte, sector, size int) bool {
	return counts(h.number) && counts(h.life) && counts(h.first) &&
		h.number%heads == sector && h.place >= 0 && h.place < size &&
		bytes.Equal(b, h.sector())
}

// counts tells whether it is a number that counts something from 1 on.
func counts(n int) bool { return n >= 1 && n <= api.MaxNumber }

// piece is what a record has in one sector.
type piece struct {
	number      int // the record's
	bytes       []byte
	first, last bool
}

// pieces is a record's, in order.
func pieces(number int, rec []byte) []piece {
	var l []piece
	for part := range slices.Chunk(rec, api.Load) {
		l = append(l, piece{number: number, bytes: part})
	}
	l[0].first, l[len(l)-1].last = true, true
	return l
}

func (p piece) sector() []byte {
	b := blank()
	b[0] = recordMark
	putNumber(b[1:atCount], uint64(p.number))
	b[atCount] = byte(len(p.bytes))
	b[atFirst], b[atLast] = flag(p.first), flag(p.last)
	copy(b[atBytes:], p.bytes)
	return seal(b)
}

func flag(so bool) byte {
	if so {
		return 1
	}
	return 0
}

// pieceOf is the piece of a sector, which may be wrong.
func pieceOf(b []byte) piece {
	count := min(int(b[atCount]), api.Load)
	return piece{
		number: numberOf(b[1:atCount]),
		bytes:  b[atBytes : atBytes+count],
		first:  b[atFirst] == 1,
		last:   b[atLast] == 1,
	}
}

// right tells whether b is the piece's sector, and whether a record may have
// it: only its last one is not full, and none is empty.
func (p piece) right(b []byte) bool {
	return len(p.bytes) >= 1 && (p.last || len(p.bytes) == api.Load) && bytes.Equal(b, p.sector())
}
