package frame

import (
	"math/bits"

	"amphora/api"
)

// maxVotes is how many votes a message has at most.
const maxVotes = 1000

// Cmd is a command's bytes.
func Cmd(c api.Cmd) ([]byte, api.Errno) {
	if !mayCmd(c) {
		return nil, api.ErrArg
	}
	return appendCmd(nil, c), api.OK
}

// Msg is a message's bytes.
func Msg(m api.Msg) ([]byte, api.Errno) {
	if !mayMsg(m) {
		return nil, api.ErrArg
	}
	return appendMsg(nil, m), api.OK
}

// mayCmd tells whether a command may be. It asks for lengths ahead of parts,
// so that no long list is gone through in vain.
func mayCmd(c api.Cmd) bool {
	return len(c.Key) <= api.MaxKey && len(c.Nodes) <= api.MaxWidth &&
		c.Kind >= api.CmdNop && c.Kind <= api.CmdWidth &&
		allUpTo(api.MaxNumber, c.ID, c.Blob, c.Other, c.Index, c.Size) &&
		allUpTo(api.MaxWidth, c.Code.K, c.Code.M) &&
		allUpTo(api.MaxNodes-1, c.Node) && allUpTo(api.MaxNodes-1, c.Nodes...)
}

// mayMsg tells whether a message may be.
func mayMsg(m api.Msg) bool {
	return len(m.Votes) <= maxVotes && len(m.Bytes) <= api.MaxRecord &&
		m.Kind >= api.MsgPrepare && m.Kind <= api.MsgFenced &&
		allUpTo(api.MaxNodes-1, m.From, m.To) &&
		allUpTo(api.MaxNumber, m.Ballot, m.Slot, m.Blob, m.Index, m.Epoch, m.ID) &&
		mayCmd(m.Cmd) && mayVotes(m.Votes)
}

// mayVotes tells whether the votes of a message may be.
func mayVotes(votes []api.Vote) bool {
	for _, v := range votes {
		if !allUpTo(api.MaxNumber, v.Slot, v.Ballot) || !mayCmd(v.Cmd) {
			return false
		}
	}
	return true
}

// allUpTo tells whether all numbers are from 0 to most.
func allUpTo(most int, numbers ...int) bool {
	for _, n := range numbers {
		if n < 0 || n > most {
			return false
		}
	}
	return true
}

// appendCmd writes a command that may be behind b.
func appendCmd(b []byte, c api.Cmd) []byte {
	b = appendNumbers(b, c.ID, c.Kind, c.Blob, c.Other, c.Index, c.Node, c.Size, int(c.Sum), c.Code.K, c.Code.M)
	b = appendNumbers(b, len(c.Key))
	b = append(b, c.Key...)
	b = appendNumbers(b, len(c.Nodes))
	return appendNumbers(b, c.Nodes...)
}

// appendMsg writes a message that may be behind b.
func appendMsg(b []byte, m api.Msg) []byte {
	b = appendNumbers(b, m.Kind, m.From, m.To, m.Ballot, m.Slot, m.Blob, m.Index, m.Epoch, m.ID)
	b = appendTruth(b, m.OK)
	b = appendCmd(b, m.Cmd)
	b = appendNumbers(b, len(m.Votes))
	for _, v := range m.Votes {
		b = appendNumbers(b, v.Slot, v.Ballot)
		b = appendCmd(b, v.Cmd)
	}
	b = appendNumbers(b, len(m.Bytes))
	return append(b, m.Bytes...)
}

// appendNumbers writes numbers from 0 on behind b, each in as few bytes as it
// takes, so that there is one form of it.
func appendNumbers(b []byte, numbers ...int) []byte {
	for _, n := range numbers {
		width := (bits.Len64(uint64(n)) + 7) / 8
		b = append(b, byte(width))
		for left := width - 1; left >= 0; left-- {
			b = append(b, byte(n>>(8*left)))
		}
	}
	return b
}

// appendTruth writes a truth behind b.
func appendTruth(b []byte, truth bool) []byte {
	if truth {
		return append(b, 1)
	}
	return append(b, 0)
}
