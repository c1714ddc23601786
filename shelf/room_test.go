package shelf_test

import (
	"bytes"
	"encoding/binary"
	"hash/crc32"
	"testing"

	"amphora/api"
	"amphora/plate"
	"amphora/shelf"
)

// sealed is a sector of its first bytes: see the chapter of wal.
func sealed(b []byte) []byte {
	b = append(bytes.Clone(b), make([]byte, 59-len(b))...)
	sum := crc32.Checksum(b, crc32.MakeTable(crc32.Castagnoli))
	return append(binary.BigEndian.AppendUint32(b, sum), 0xa7)
}

// heads is the numbers of both heads of a plate: how often a checkpoint was.
func heads(p *plate.Plate) (int, int) {
	image := p.Image()
	return int(binary.BigEndian.Uint64(image[0][1:9])), int(binary.BigEndian.Uint64(image[1][1:9]))
}

// newest is the greater of them.
func newest(p *plate.Plate) int { return max(heads(p)) }

// P8.4: a ring of four sectors, step by step.
func TestRoomByHand(t *testing.T) {
	p, s := shelfOf(t, 6)
	a, b, c := []byte("a"), []byte("b"), []byte("c")
	is(t, "one note: 1 and 1 of 4", s.Note(1, a), api.OK)
	is(t, "two notes: 1 and 2 of 3", s.Note(2, a), api.OK)
	tells(t, "two notes", p, noteRec(1, a), noteRec(2, a))
	if newest(p) != 1 {
		t.Fatalf("head %d: a checkpoint without need", newest(p))
	}
	is(t, "again: 1 and 2 of 2, and of 2 behind a checkpoint", s.Note(1, b), api.ErrFull)
	tells(t, "a checkpoint", p, noteRec(1, a), noteRec(2, a))
	if newest(p) != 2 || len(p.Dirty()) > 0 {
		t.Fatalf("head %d, dirty %v: no checkpoint", newest(p), p.Dirty())
	}
	has(t, "full", s, stock{notes: map[int][]byte{1: a, 2: a}})
	is(t, "a third one: 1 and 3 of 2", s.Note(3, c), api.ErrFull)
	if newest(p) != 3 {
		t.Fatalf("head %d: no checkpoint", newest(p))
	}
	is(t, "just these", s.Note(2, a), api.OK)
	if newest(p) != 3 {
		t.Fatalf("head %d: a checkpoint without a record", newest(p))
	}
	has(t, "opened", opened(t, p), stock{notes: map[int][]byte{1: a, 2: a}})
}

// P8.4: one note is turned again and again: three of them fit, then all but the
// last make room.
func TestRoomIsMadeByCheckpoints(t *testing.T) {
	p, s := shelfOf(t, 6)
	for i, want := range []int{1, 1, 1, 2, 2, 3, 3, 4} { // 4, 3, 2 sectors are free, 1 is none; then 3, 2
		is(t, "Note", s.Note(1, []byte{byte(i)}), api.OK)
		if newest(p) != want {
			t.Fatalf("note %d: head %d, want %d", i, newest(p), want)
		}
		has(t, "a note", s, stock{notes: map[int][]byte{1: {byte(i)}}})
	}
	tells(t, "the last two", p, noteRec(1, []byte{6}), noteRec(1, []byte{7}))
}

// P8.4: what a checkpoint has: shards by blob and index, fences above 0
// likewise, notes rising.
func TestCheckpointHasAll(t *testing.T) {
	p, s := shelfOf(t, 30)
	b := []byte("b")
	is(t, "Note", s.Note(300, b), api.OK)
	is(t, "Note", s.Note(2, nil), api.OK)
	is(t, "Fence", s.Fence(256, 1, 2), api.OK)
	is(t, "Fence", s.Fence(3, 10, 1), api.OK)
	is(t, "Fence", s.Fence(3, 9, 4), api.OK)
	is(t, "Store", s.Store(256, 0, 0, b), api.OK)
	is(t, "Store", s.Store(4, 10, 0, b), api.OK)
	is(t, "Store", s.Store(4, 9, 0, b), api.OK)
	is(t, "Store", s.Store(4, 8, 0, b), api.OK)
	is(t, "Drop", s.Drop(4, 8), api.OK)
	turn := byte(0)
	for ; newest(p) == 1; turn++ {
		is(t, "Note", s.Note(2, []byte{turn}), api.OK)
	}
	tells(t, "all", p, shardRec(4, 9, b), shardRec(4, 10, b), shardRec(256, 0, b),
		fenceRec(3, 9, 4), fenceRec(3, 10, 1), fenceRec(256, 1, 2),
		noteRec(2, []byte{turn - 2}), noteRec(300, b), noteRec(2, []byte{turn - 1}))
	if len(p.Dirty()) != 1 {
		t.Errorf("dirty %v: the checkpoint is not durable, or the last record is", p.Dirty())
	}
}

// P8.4: just room without a checkpoint, and not quite: what each kind of record
// wants.
func TestJustRoom(t *testing.T) {
	b := []byte("b")
	for name, c := range map[string]struct {
		ahead int // sectors of a note that is there
		call  func(s *shelf.Shelf) api.Errno
		want  int // sectors of the record and of what the shelf has behind it
	}{
		"a record of Load":      {1, func(s *shelf.Shelf) api.Errno { return s.Store(1, 1, 0, some(35, 1)) }, 1 + 1 + 1},
		"one byte more":         {1, func(s *shelf.Shelf) api.Errno { return s.Store(1, 1, 0, some(36, 1)) }, 2 + 1 + 2},
		"a shard, a long note":  {3, func(s *shelf.Shelf) api.Errno { return s.Store(1, 1, 0, b) }, 1 + 3 + 1},
		"the longest shard":     {1, func(s *shelf.Shelf) api.Errno { return s.Store(1, 1, 0, some(long, 1)) }, 50 + 1 + 50},
		"a fence":               {2, func(s *shelf.Shelf) api.Errno { return s.Fence(1, 1, 1) }, 1 + 2 + 1},
		"another note":          {2, func(s *shelf.Shelf) api.Errno { return s.Note(7, nil) }, 1 + 2 + 1},
		"the note anew, longer": {2, func(s *shelf.Shelf) api.Errno { return s.Note(0, some(100, 1)) }, 3 + 3},
		"the note anew, empty":  {4, func(s *shelf.Shelf) api.Errno { return s.Note(0, nil) }, 1 + 1},
	} {
		t.Run(name, func(t *testing.T) {
			note := some(40*c.ahead-2, 9)
			for size := 4; size < c.ahead+c.want+8; size++ {
				if size < 2*c.ahead {
					continue // no room for the note
				}
				p, s := shelfOf(t, 2+size)
				is(t, "the note", s.Note(0, note), api.OK)
				got := c.call(s)
				switch {
				case size-c.ahead >= c.want:
					is(t, "room", got, api.OK)
					if newest(p) != 1 {
						t.Fatalf("%d sectors: a checkpoint without need", size)
					}
				default: // the note is all that it has: a checkpoint makes no room
					is(t, "no room", got, api.ErrFull)
					has(t, "no room", s, stock{notes: map[int][]byte{0: note}, fences: map[key]int{{1, 1}: 0}})
					tells(t, "no room", p, noteRec(0, note))
					if newest(p) != 2 {
						t.Fatalf("%d sectors: head %d: no checkpoint", size, newest(p))
					}
				}
			}
		})
	}
}

// P8.4: a drop wants its own sector, and those of what is left.
func TestJustRoomForADrop(t *testing.T) {
	for size := 4; size < 12; size++ {
		p, s := shelfOf(t, 2+size)
		is(t, "Store", s.Store(1, 1, 0, some(50, 1)), api.OK) // 2 sectors, and 2
		is(t, "Drop", s.Drop(1, 1), api.OK)                   // 1 sector, and none
		is(t, "Drop", s.Drop(1, 1), api.ErrAbsent)
		if newest(p) != 1 {
			t.Fatalf("%d sectors: a checkpoint without need", size)
		}
		tells(t, "dropped", p, shardRec(1, 1, some(50, 1)), dropRec(1, 1))
	}
}

// P8.4: with a checkpoint there is just room, or just not. A note of some
// sectors was written as often as it has sectors, so that a checkpoint frees all
// of them but one time.
func TestJustRoomBehindACheckpoint(t *testing.T) {
	for had := 2; had < 5; had++ {
		for size := had * (had + 1); size < 30; size++ {
			for wants := 1; wants < 9; wants++ {
				p, s := shelfOf(t, 2+size)
				var note, shard []byte
				for i := range had {
					note = some(40*had-2-i, 1)
					is(t, "Note", s.Note(0, note), api.OK)
				}
				shard = some(40*wants-5, 2)
				got := s.Store(1, 1, 0, shard)
				switch want := wants + wants + had; {
				case size-had*had >= want:
					is(t, "room", got, api.OK)
					if newest(p) != 1 {
						t.Fatalf("%d sectors: a checkpoint without need", size)
					}
				case size-had >= want:
					is(t, "room behind a checkpoint", got, api.OK)
					tells(t, "room behind a checkpoint", p, noteRec(0, note), shardRec(1, 1, shard))
				default:
					is(t, "no room", got, api.ErrFull)
					tells(t, "no room", p, noteRec(0, note))
				}
			}
		}
	}
}

// P8.4: a fence of 0, which no shelf writes, is none that a shelf has.
func TestFencesOfNoughtHaveNoRoom(t *testing.T) {
	a, b := []byte("a"), []byte("b")
	p := logged(t, 6, fenceRec(1, 1, 0), noteRec(1, a))
	s := opened(t, p)
	is(t, "1 and 2 of 2, and of 3 behind a checkpoint", s.Note(2, b), api.OK)
	tells(t, "behind a checkpoint", p, noteRec(1, a), noteRec(2, b))
}

// P8.4: an error of a checkpoint is the answer.
func TestFailedCheckpoint(t *testing.T) {
	p, s := shelfOf(t, 6)
	is(t, "Note", s.Note(1, []byte("a")), api.OK)
	is(t, "Note", s.Note(2, []byte("a")), api.OK)
	p.Fail()
	is(t, "1 and 2 of 2", s.Note(1, []byte("b")), api.ErrDead)
	has(t, "failed", s, stock{notes: map[int][]byte{1: []byte("a"), 2: []byte("a")}})
}

// P8.4: a log with less room than a checkpoint needs, as no shelf leaves it.
func TestNoRoomForACheckpoint(t *testing.T) {
	p := logged(t, 6, noteRec(1, some(70, 1)), noteRec(2, some(10, 2)))
	s := opened(t, p)
	want := stock{notes: map[int][]byte{1: some(70, 1), 2: some(10, 2)}, fences: map[key]int{{1, 1}: 0}}
	before := p.Copy()
	is(t, "Fence", s.Fence(1, 1, 1), api.ErrFull)
	is(t, "Note", s.Note(2, nil), api.ErrFull)
	is(t, "Store", s.Store(1, 1, 1, []byte("b")), api.ErrFull)
	unchanged(t, "no room", p, before)
	has(t, "no room", s, want)
}

// P8.4: the log's own ends: of heads, and of records.
func TestTheLogsEnd(t *testing.T) {
	p := newPlate(t, 6)
	is(t, "Write", p.Write(1, headOf(most-1, 1, 0, 1)), api.OK)
	s := opened(t, p)
	for i := range 3 {
		is(t, "Note", s.Note(1, []byte{byte(i)}), api.OK)
	}
	before := p.Copy()
	is(t, "no head any more", s.Note(1, nil), api.ErrFull)
	unchanged(t, "no head any more", p, before)
	has(t, "no head any more", s, stock{notes: map[int][]byte{1: {2}}})

	for size, notes := range map[int]int{
		4: 5, // three, one and another one behind a checkpoint: no number for one more checkpoint
		8: 9, // seven, and two behind a checkpoint: room, but no number for a record
	} {
		p := newPlate(t, 2+size)
		is(t, "Write", p.Write(1, headOf(1, 1, 0, most-size-1)), api.OK)
		s := opened(t, p)
		for i := range notes {
			is(t, "Note", s.Note(1, []byte{byte(i)}), api.OK)
		}
		before := p.Copy()
		is(t, "no number any more", s.Note(1, nil), api.ErrFull)
		unchanged(t, "no number any more", p, before)
		has(t, "no number any more", s, stock{notes: map[int][]byte{1: {byte(notes - 1)}}})
	}
}
