// Package clone has copies of what api's types hold: of their lists too, so
// that nobody who writes over one changes the other.
package clone

import (
	"bytes"
	"slices"

	"amphora/api"
)

// Cmd is a copy of a command.
func Cmd(c api.Cmd) api.Cmd {
	c.Nodes = slices.Clone(c.Nodes)
	return c
}

// Votes is a copy of votes.
func Votes(l []api.Vote) []api.Vote {
	l = slices.Clone(l)
	for i := range l {
		l[i].Cmd = Cmd(l[i].Cmd)
	}
	return l
}

// Msg is a copy of a message.
func Msg(m api.Msg) api.Msg {
	m.Cmd = Cmd(m.Cmd)
	m.Votes = Votes(m.Votes)
	m.Bytes = bytes.Clone(m.Bytes)
	return m
}

// Blob is a copy of a blob.
func Blob(b api.Blob) api.Blob {
	b.Nodes = slices.Clone(b.Nodes)
	return b
}

// Recode is a copy of a recode.
func Recode(r api.Recode) api.Recode {
	r.Nodes = slices.Clone(r.Nodes)
	return r
}
