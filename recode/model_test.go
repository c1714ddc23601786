package recode_test

import (
	"bytes"
	"fmt"
	"slices"
	"testing"

	"amphora/api"
	"amphora/frame"
	"amphora/recode"
	"amphora/stripe"
)

// dice is numbers that look thrown, the same ones at each run.
type dice uint32

func (d *dice) roll(n int) int {
	*d = *d*1664525 + 1013904223
	return int(uint32(*d) >> 8 % uint32(n))
}

// model is a recoder by the chapter's words.
type model struct {
	self  int
	b     api.Blob
	r     api.Recode
	phase int
	came  map[int][]byte
	cut   [][]byte
	saved map[int]bool
}

func (m *model) asks(epoch int) []api.Msg {
	var asks []api.Msg
	switch m.phase {
	case 1:
		for i := range m.b.Nodes {
			if _, ok := m.came[i]; !ok {
				asks = append(asks, fetch(m.self, m.b, epoch, i)...)
			}
		}
	case 2:
		for i := range m.r.Nodes {
			if !m.saved[i] {
				asks = append(asks, store(m.self, m.r, m.cut, epoch, i)...)
			}
		}
	}
	return asks
}

func (m *model) on(x api.Msg) bool {
	switch {
	case m.phase == 1 && x.Kind == api.MsgFetched && x.OK && x.Blob == m.b.ID && x.Index >= 0 && x.Index < len(m.b.Nodes):
		_, there := m.came[x.Index]
		if there || x.From != m.b.Nodes[x.Index] || len(x.Bytes) != stripe.Length(m.b.Code, m.b.Size) {
			return false
		}
		m.came[x.Index] = bytes.Clone(x.Bytes)
		if len(m.came) == m.b.Code.K {
			m.join()
		}
		return true
	case m.phase == 2 && x.Kind == api.MsgStored && x.OK && x.Blob == m.r.Other && x.Index >= 0 && x.Index < len(m.r.Nodes):
		if m.saved[x.Index] || x.From != m.r.Nodes[x.Index] {
			return false
		}
		m.saved[x.Index] = true
		if len(m.saved) == len(m.r.Nodes) {
			m.phase = 3
		}
		return true
	}
	return false
}

func (m *model) join() {
	all := make([][]byte, len(m.b.Nodes))
	for i, shard := range m.came {
		all[i] = shard
	}
	blob, _ := stripe.Join(m.b.Code, m.b.Size, all)
	if frame.Sum(blob) != m.b.Sum {
		m.came = map[int][]byte{}
		return
	}
	m.cut, _ = stripe.Cut(m.r.Code, blob)
	m.phase = 2
}

func (m *model) look() string {
	return fmt.Sprintf("%d %+v %+v", m.phase, m.asks(11), m.r)
}

// nodes is so many nodes in some order.
func (d *dice) nodes(count int) []int {
	nodes := from(0, api.MaxNodes)
	for i := range nodes {
		j := i + d.roll(len(nodes)-i)
		nodes[i], nodes[j] = nodes[j], nodes[i]
	}
	return nodes[:count]
}

// thrown is a blob, and a recode of it.
func (d *dice) thrown() (api.Blob, api.Recode) {
	c, other := api.Code{K: 1 + d.roll(4), M: d.roll(3)}, api.Code{K: 1 + d.roll(3), M: d.roll(3)}
	size := d.roll(80)
	b := api.Blob{ID: d.roll(9), Size: size, Sum: frame.Sum(whole(size)), Code: c, Nodes: d.nodes(c.K + c.M)}
	return b, api.Recode{Blob: b.ID, Other: d.roll(9), Code: other, Nodes: d.nodes(other.K + other.M)}
}

// msg is a message that a recoder may hear: mostly as it is asked.
func (d *dice) msg(m *model, shards [][]byte) api.Msg {
	i := d.roll(len(m.b.Nodes))
	x := fetched(m.b, i, shards[i])
	if d.roll(4) < m.phase {
		x = stored(m.r, d.roll(len(m.r.Nodes)))
	}
	switch d.roll(16) {
	case 0:
		x.OK = false
	case 1:
		x.Blob = d.roll(9)
	case 2:
		x.Index = d.roll(len(m.b.Nodes)+2) - 1
	case 3:
		x.From = d.roll(api.MaxNodes)
	case 4:
		x.Kind = d.roll(17)
	case 5:
		x.Bytes = make([]byte, d.roll(30))
	case 6:
		x.Bytes = slices.Concat(x.Bytes, []byte{1})
	case 7:
		x.Bytes = bytes.Repeat([]byte{byte(d.roll(256))}, len(x.Bytes))
	}
	return x
}

// P18.1, P18.2: a recoder is the chapter's, over many scripts.
func TestModel(t *testing.T) {
	d, ended := dice(1), 0
	for range 4000 {
		b, to := d.thrown()
		self, shards := d.roll(api.MaxNodes), cut(t, b.Code, b.Size)
		r, e := recode.New(self, b, to)
		if e != api.OK {
			t.Fatal(e)
		}
		like := &model{self: self, b: b, r: to, phase: 1, came: map[int][]byte{}, saved: map[int]bool{}}
		for range 25 {
			x := d.msg(like, shards)
			if got, want := r.On(x), like.on(x); got != want || look(r) != like.look() {
				t.Fatalf("On %+v: %v, %s, want %v, %s", x, got, look(r), want, like.look())
			}
		}
		if r.Phase() == 3 {
			ended++
		}
	}
	if ended < 400 || ended > 3900 {
		t.Fatalf("%d scripts came to the last phase: too few or too many to tell", ended)
	}
}
