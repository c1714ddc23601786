package mover_test

import (
	"bytes"
	"fmt"
	"slices"
	"testing"

	"amphora/api"
	"amphora/mover"
	"amphora/reed"
	"amphora/stripe"
)

// dice is numbers that look thrown, the same ones at each run.
type dice uint32

func (d *dice) roll(n int) int {
	*d = *d*1664525 + 1013904223
	return int(uint32(*d) >> 8 % uint32(n))
}

// model is a mover by the chapter's words.
type model struct {
	self, index int
	b           api.Blob
	phase       int
	came        map[int][]byte
	shard       []byte
	fence       int
}

func (m *model) asks(epoch int) []api.Msg {
	var asks []api.Msg
	switch m.phase {
	case 1:
		for i := range m.b.Nodes {
			if _, ok := m.came[i]; !ok {
				asks = append(asks, fetch(m.self, m.b, i, epoch))
			}
		}
	case 3:
		asks = append(asks, api.Msg{Kind: api.MsgFence, From: m.self, To: m.b.Nodes[m.index], Blob: m.b.ID, Index: m.index, Epoch: m.fence})
	}
	return asks
}

func (m *model) on(x api.Msg) bool {
	as := x.OK && x.Blob == m.b.ID && x.Index >= 0 && x.Index < len(m.b.Nodes) && x.From == m.b.Nodes[x.Index]
	if m.phase == 1 && as && x.Kind == api.MsgFetched && len(x.Bytes) == stripe.Length(m.b.Code, m.b.Size) {
		if _, ok := m.came[x.Index]; ok {
			return false
		}
		m.came[x.Index] = bytes.Clone(x.Bytes)
		if x.Index == m.index {
			m.shard, m.phase = bytes.Clone(x.Bytes), 2
		} else if len(m.came) == m.b.Code.K {
			all := make([][]byte, len(m.b.Nodes))
			for i, shard := range m.came {
				all[i] = shard
			}
			m.shard, _ = reed.Repair(m.b.Code, all, m.index)
			m.phase = 2
		}
		return true
	}
	if m.phase == 3 && as && x.Kind == api.MsgFenced && x.Index == m.index {
		m.phase = 4
		return true
	}
	return false
}

func (m *model) have(b []byte) api.Errno {
	if m.phase != 1 || len(b) != stripe.Length(m.b.Code, m.b.Size) {
		return api.ErrArg
	}
	m.shard, m.phase = bytes.Clone(b), 2
	return api.OK
}

func (m *model) stored(epoch int) api.Errno {
	if m.phase != 2 || epoch < 0 || epoch > api.MaxNumber-1 {
		return api.ErrArg
	}
	m.fence, m.phase = epoch+1, 3
	return api.OK
}

func (m *model) skip() api.Errno {
	if m.phase != 3 {
		return api.ErrArg
	}
	m.phase = 4
	return api.OK
}

func (m *model) look() string {
	return fmt.Sprintf("%d %+v %x %+v", m.phase, m.asks(11), m.shard, api.Move{Blob: m.b.ID, Index: m.index, Node: m.self})
}

// thrown is a blob on some nodes in some order, and a node that is none of them.
func (d *dice) thrown() (api.Blob, int) {
	nodes := make([]int, api.MaxNodes)
	for i := range nodes {
		nodes[i] = i
	}
	for i := range nodes {
		j := i + d.roll(len(nodes)-i)
		nodes[i], nodes[j] = nodes[j], nodes[i]
	}
	c := api.Code{K: 1 + d.roll(4), M: d.roll(4)}
	return api.Blob{ID: d.roll(20), Size: d.roll(80), Code: c, Nodes: nodes[1 : 1+c.K+c.M]}, nodes[0]
}

// msg is a message that a mover may hear: mostly as it is asked.
func (d *dice) msg(b api.Blob, shards [][]byte, index int) api.Msg {
	i := d.roll(len(b.Nodes))
	x := fetched(b, i, shards[i])
	if d.roll(2) == 0 {
		if d.roll(3) > 0 {
			i = index
		}
		x = fenced(b, i)
	}
	switch d.roll(12) {
	case 0:
		x.OK = false
	case 1:
		x.Blob = d.roll(20)
	case 2:
		x.Index = d.roll(len(b.Nodes)+2) - 1
	case 3:
		x.From = d.roll(api.MaxNodes)
	case 4:
		x.Kind = d.roll(17)
	case 5:
		x.Bytes = make([]byte, d.roll(30))
	case 6:
		x.Bytes = slices.Concat(x.Bytes, []byte{1})
	case 7:
		x.Bytes = bytes.Repeat([]byte{byte(d.roll(256))}, len(x.Bytes))
	}
	return x
}

// act does one call on a mover and on its model, and tells what both answered.
func (d *dice) act(m *mover.Mover, like *model, shards [][]byte) (what string, got, want any) {
	switch d.roll(10) {
	case 0:
		b := make([]byte, len(shards[0])-1+d.roll(3))
		if d.roll(3) > 0 {
			return "no call", 0, 0
		}
		return fmt.Sprint("Have of ", len(b)), m.Have(b), like.have(b)
	case 1:
		epoch := []int{-1, 0, 5, api.MaxNumber - 1, api.MaxNumber}[d.roll(5)]
		return fmt.Sprint("Stored of ", epoch), m.Stored(epoch), like.stored(epoch)
	case 2:
		if d.roll(3) > 0 {
			return "no call", 0, 0
		}
		return "Skip", m.Skip(), like.skip()
	}
	x := d.msg(like.b, shards, like.index)
	return fmt.Sprintf("On %+v", x), m.On(x), like.on(x)
}

// P17.1 to P17.3: a mover is the chapter's, over many scripts.
func TestModel(t *testing.T) {
	d, ended := dice(1), 0
	for range 4000 {
		b, self := d.thrown()
		shards := cut(t, b)
		index := d.roll(len(b.Nodes))
		m, e := mover.New(self, b, index)
		is(t, "New", e, api.OK)
		like := &model{self: self, index: index, b: b, phase: 1, came: map[int][]byte{}}
		for range 25 {
			what, got, want := d.act(m, like, shards)
			if got != want || look(m) != like.look() {
				t.Fatalf("%s: %v, %s, want %v, %s", what, got, look(m), want, like.look())
			}
		}
		if m.Phase() == 4 {
			ended++
		}
	}
	if ended < 400 || ended > 3900 {
		t.Fatalf("%d scripts came to the last phase: too few or too many to tell", ended)
	}
}
