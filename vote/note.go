package vote

import (
	"math/bits"

	"amphora/api"
	"amphora/frame"
)

// promiseNote is the note of the promised ballot; each other one is that of a
// slot.
const promiseNote = 0

// widest is how many bytes the widest number takes.
const widest = 8

// rank is a ballot, as a kind of its own: slots are numbers too, and none of
// them is to be held against a ballot.
type rank struct{ ballot int }

// below tells whether another one goes ahead of it.
func (r rank) below(o rank) bool { return r.ballot < o.ballot }

// written is its bytes: those of a number, in as few as it takes.
func (r rank) written() []byte {
	width := (bits.Len64(uint64(r.ballot)) + 7) / 8
	b := []byte{byte(width)}
	for left := width - 1; left >= 0; left-- {
		b = append(b, byte(r.ballot>>(8*left)))
	}
	return b
}

// readRank is the ballot that bytes begin with, what stands behind it, and
// whether there is one. That its first byte is not 0 leaves it one form.
func readRank(b []byte) (rank, []byte, bool) {
	if len(b) == 0 {
		return rank{}, nil, false
	}
	width, b := int(b[0]), b[1:]
	if width > widest || width > len(b) || width > 0 && b[0] == 0 {
		return rank{}, nil, false
	}
	var n uint64
	for _, x := range b[:width] {
		n = n<<8 | uint64(x)
	}
	if n > api.MaxNumber {
		return rank{}, nil, false
	}
	return rank{int(n)}, b[width:], true
}

// readVote is the vote of a slot's note, and whether it is one.
func readVote(slot int, note []byte) (api.Vote, bool) {
	r, cmd, ok := readRank(note)
	if !ok || r == (rank{}) {
		return api.Vote{}, false
	}
	c, e := frame.ReadCmd(cmd)
	if e != api.OK {
		return api.Vote{}, false
	}
	return api.Vote{Slot: slot, Ballot: r.ballot, Cmd: c}, true
}

// may tells whether a note is one of an acceptor.
func may(n int, note []byte) bool {
	if n != promiseNote {
		_, ok := readVote(n, note)
		return ok
	}
	_, behind, ok := readRank(note)
	return ok && len(behind) == 0
}
