package shelf

import (
	"bytes"
	"cmp"
	"math/bits"

	"amphora/api"
)

// Kinds of records.
const (
	kindShard = 1
	kindDrop  = 2
	kindFence = 3
	kindNote  = 4
)

// thing is what a record is about: a blob's shard, or the number of a note.
type thing struct{ kind, number, index int }

// compare orders things by kind, then by their numbers.
func (t thing) compare(o thing) int {
	return cmp.Or(cmp.Compare(t.kind, o.kind), cmp.Compare(t.number, o.number), cmp.Compare(t.index, o.index))
}

// record is one of a shelf; which of its parts it has hangs on its kind.
type record struct {
	thing
	epoch int
	bytes []byte
}

// subject is the thing that it has be otherwise.
func (r record) subject() thing {
	if r.kind == kindDrop {
		return thing{kindShard, r.number, r.index}
	}
	return r.thing
}

// stays tells whether the shelf has it from then on: what is dropped is no
// more, and a fence of 0 is none.
func (r record) stays() bool {
	return r.kind != kindDrop && (r.kind != kindFence || r.epoch > 0)
}

// sectors is how many it has in the log.
func (r record) sectors() int { return (len(r.written()) + api.Load - 1) / api.Load }

// written is its bytes.
func (r record) written() []byte {
	b := []byte{byte(r.kind)}
	b = appendNumber(b, r.number)
	if r.kind != kindNote {
		b = appendNumber(b, r.index)
	}
	if r.kind == kindFence {
		b = appendNumber(b, r.epoch)
	}
	return append(b, r.bytes...)
}

// recordOf is the record of bytes, and whether they are one. They are taken
// apart by the kind alone, and then held against what would be written.
func recordOf(b []byte) (record, bool) {
	c := cursor{rest: b}
	var r record
	r.kind = int(c.next())
	r.number = c.number()
	if r.kind != kindNote {
		r.index = c.number()
	}
	if r.kind == kindFence {
		r.epoch = c.number()
	}
	r.bytes = bytes.Clone(c.rest)
	return r, r.may() && bytes.Equal(b, r.written())
}

// may tells whether a shelf may have written it.
func (r record) may() bool {
	if !areNumbers(r.number, r.index, r.epoch) || len(r.bytes) > mostBytes {
		return false
	}
	switch r.kind {
	case kindShard:
		return len(r.bytes) > 0
	case kindDrop, kindFence:
		return len(r.bytes) == 0
	}
	return r.kind == kindNote
}

// areNumbers tells whether all are from 0 to MaxNumber.
func areNumbers(numbers ...int) bool {
	for _, n := range numbers {
		if n < 0 || n > api.MaxNumber {
			return false
		}
	}
	return true
}

// appendNumber writes a number from 0 on in as few bytes as it takes.
func appendNumber(b []byte, n int) []byte {
	width := (bits.Len64(uint64(n)) + 7) / 8
	b = append(b, byte(width))
	for left := width - 1; left >= 0; left-- {
		b = append(b, byte(n>>(8*left)))
	}
	return b
}

// cursor takes bytes apart. Beyond their end it tells noughts, as then they are
// shorter than what would be written anyway.
type cursor struct{ rest []byte }

func (c *cursor) next() byte {
	if len(c.rest) == 0 {
		return 0
	}
	x := c.rest[0]
	c.rest = c.rest[1:]
	return x
}

// number is the next one; of one that is wider than any the highest bytes are
// lost, as it would be written in fewer anyway.
func (c *cursor) number() int {
	var n uint64
	for range c.next() {
		n = n<<8 | uint64(c.next())
	}
	return int(n)
}
