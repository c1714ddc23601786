package frame

import (
	"math"

	"amphora/api"
)

// widest is how many bytes the widest number takes.
const widest = 8

// ReadCmd is the command of bytes.
func ReadCmd(b []byte) (api.Cmd, api.Errno) {
	r := cmdReader{cursor{rest: b}}
	return attempt(func() api.Cmd {
		c := r.cmd()
		r.need(r.done() && mayCmd(c))
		return c
	})
}

// ReadMsg is the message of bytes.
func ReadMsg(b []byte) (api.Msg, api.Errno) {
	r := msgReader{cmdReader{cursor{rest: b}}}
	return attempt(func() api.Msg {
		m := r.msg()
		r.need(r.done() && mayMsg(m))
		return m
	})
}

// attempt is what read answers; nothing and ErrForm, if it gives up.
func attempt[T any](read func() T) (got T, e api.Errno) {
	defer func() {
		if recover() != nil {
			e = api.ErrForm // got is nothing still, as read has not answered
		}
	}()
	return read(), api.OK
}

// cursor goes through bytes, part by part. Where they are not those of what is
// asked for it gives up by panic, so that no reader has to ask behind each part.
type cursor struct{ rest []byte }

// need gives up, unless it is so.
func (c *cursor) need(so bool) {
	if !so {
		panic(api.ErrForm)
	}
}

// done tells whether nothing is left.
func (c *cursor) done() bool { return len(c.rest) == 0 }

// take is the next n bytes, with no room behind them: what is left is not
// theirs to be written over.
func (c *cursor) take(n int) []byte {
	c.need(n <= len(c.rest))
	taken := c.rest[:n:n]
	c.rest = c.rest[n:]
	return taken
}

// upTo is a number from 0 to most. That its first byte is not 0 leaves it one
// form.
func (c *cursor) upTo(most int) int {
	width := int(c.take(1)[0])
	c.need(width <= widest)
	digits := c.take(width)
	c.need(width == 0 || digits[0] != 0)
	n := highestFirst(digits)
	c.need(n <= uint64(most))
	return int(n)
}

// number is one that has no limit of its own, or one that is asked for later.
func (c *cursor) number() int { return c.upTo(api.MaxNumber) }

// text is the bytes of a text of at most so many, which are the cursor's own.
func (c *cursor) text(most int) []byte { return c.take(c.upTo(most)) }

// truth is a byte of 0 or 1.
func (c *cursor) truth() bool {
	x := c.take(1)[0]
	c.need(x <= 1)
	return x == 1
}

// cmdReader reads commands. It leaves it to others whether they may be, but
// for what it could not hold, and for lists that are too long.
type cmdReader struct{ cursor }

func (r *cmdReader) cmd() api.Cmd {
	var c api.Cmd
	c.ID, c.Kind = r.number(), r.number()
	c.Blob, c.Other, c.Index = r.number(), r.number(), r.number()
	c.Node, c.Size = r.number(), r.number()
	c.Sum = uint32(r.upTo(math.MaxUint32))
	c.Code.K, c.Code.M = r.number(), r.number()
	c.Key = string(r.text(api.MaxKey))
	for range r.upTo(api.MaxWidth) {
		c.Nodes = append(c.Nodes, r.number())
	}
	return c
}

// msgReader reads messages, and leaves as much to others.
type msgReader struct{ cmdReader }

func (r *msgReader) msg() api.Msg {
	var m api.Msg
	m.Kind, m.From, m.To = r.number(), r.number(), r.number()
	m.Ballot, m.Slot = r.number(), r.number()
	m.Blob, m.Index, m.Epoch, m.ID = r.number(), r.number(), r.number(), r.number()
	m.OK = r.truth()
	m.Cmd = r.cmd()
	for range r.upTo(maxVotes) {
		m.Votes = append(m.Votes, r.vote())
	}
	m.Bytes = append(m.Bytes, r.text(api.MaxRecord)...)
	return m
}

func (r *msgReader) vote() api.Vote {
	var v api.Vote
	v.Slot, v.Ballot = r.number(), r.number()
	v.Cmd = r.cmd()
	return v
}
