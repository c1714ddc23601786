package coord_test

import (
	"bytes"
	"fmt"
	"slices"
	"testing"

	"amphora/api"
	"amphora/coord"
	"amphora/frame"
	"amphora/lease"
	"amphora/stripe"
)

// dice is numbers that look thrown, the same ones at each run.
type dice uint32

func (d *dice) roll(n int) int {
	*d = *d*1664525 + 1013904223
	return int(uint32(*d) >> 8 % uint32(n))
}

// model is a call by the chapter's words.
type model struct {
	self, id, since int
	a               api.Ask
	done            bool
	placed          bool
	code            api.Code
	nodes           []int
	stored          map[int]int
	applied         bool
	blob            api.Blob
	came            map[int][]byte
}

func (m *model) tell(says int, b []byte) []api.Told {
	m.done = true
	return []api.Told{{ID: m.a.ID, Says: says, Bytes: b}}
}

func fits(c api.Code, size int, nodes []int) bool {
	each := slices.Compact(slices.Sorted(slices.Values(nodes)))
	for _, n := range nodes {
		if n < 0 || n > 15 {
			return false
		}
	}
	return stripe.Length(c, size) != 0 && len(nodes) == c.K+c.M && len(each) == len(nodes)
}

func (m *model) place(c api.Code, nodes []int) api.Errno {
	if m.a.Kind != api.AskPut || m.placed || m.done || !fits(c, len(m.a.Bytes), nodes) {
		return api.ErrArg
	}
	m.placed, m.code, m.nodes = true, c, slices.Clone(nodes)
	return api.OK
}

func (m *model) cmd() (api.Cmd, bool) {
	switch {
	case m.done || m.applied:
	case m.a.Kind == api.AskPut && m.placed && len(m.stored) == len(m.nodes):
		return api.Cmd{ID: m.id, Kind: api.CmdPut, Key: m.a.Key, Size: len(m.a.Bytes), Sum: frame.Sum(m.a.Bytes), Code: m.code, Nodes: m.nodes}, true
	case m.a.Kind == api.AskGet:
		return api.Cmd{ID: m.id, Kind: api.CmdGet, Key: m.a.Key}, true
	case m.a.Kind == api.AskDelete:
		return api.Cmd{ID: m.id, Kind: api.CmdDelete, Key: m.a.Key}, true
	}
	return api.Cmd{}, false
}

func (m *model) asks(epoch int) []api.Msg {
	var l []api.Msg
	if m.done {
		return nil
	}
	if m.placed {
		shards, _ := stripe.Cut(m.code, m.a.Bytes)
		for i, n := range m.nodes {
			if _, ok := m.stored[i]; !ok {
				l = append(l, api.Msg{Kind: api.MsgStore, From: m.self, To: n, Epoch: epoch, Blob: m.id, Index: i, Bytes: shards[i]})
			}
		}
	}
	if m.applied {
		for i, n := range m.blob.Nodes {
			if _, ok := m.came[i]; !ok {
				l = append(l, api.Msg{Kind: api.MsgFetch, From: m.self, To: n, Epoch: epoch, Blob: m.blob.ID, Index: i})
			}
		}
	}
	return l
}

func (m *model) on(x api.Msg, now int) []api.Told {
	if m.done {
		return nil
	}
	if m.placed && x.Kind == api.MsgStored && x.Blob == m.id && x.Index >= 0 && x.Index < len(m.nodes) && x.From == m.nodes[x.Index] {
		if _, ok := m.stored[x.Index]; ok {
			return nil
		}
		if !x.OK {
			return m.tell(api.SaysNot, nil)
		}
		m.stored[x.Index] = 1
	}
	b := m.blob
	if m.applied && x.Kind == api.MsgFetched && x.OK && x.Blob == b.ID && x.Index >= 0 && x.Index < len(b.Nodes) && x.From == b.Nodes[x.Index] && len(x.Bytes) == stripe.Length(b.Code, b.Size) {
		if _, ok := m.came[x.Index]; ok {
			return nil
		}
		m.came[x.Index] = x.Bytes
		if len(m.came) < b.Code.K {
			return nil
		}
		all := make([][]byte, len(b.Nodes))
		for i, shard := range m.came {
			all[i] = shard
		}
		whole, _ := stripe.Join(b.Code, b.Size, all)
		if frame.Sum(whole) == b.Sum && lease.Valid(lease.Until(m.since), now) {
			return m.tell(api.SaysOK, whole)
		}
		return m.tell(api.SaysNot, nil)
	}
	return nil
}

func (m *model) hear(o api.Out) []api.Told {
	if _, ok := m.cmd(); !ok || o.Kind == api.OutTwice {
		return nil
	}
	says := map[[2]int]int{
		{api.AskPut, api.OutDone}: api.SaysOK, {api.AskPut, api.OutThere}: api.SaysThere,
		{api.AskGet, api.OutMissing}: api.SaysMissing,
		{api.AskDelete, api.OutDone}: api.SaysOK, {api.AskDelete, api.OutMissing}: api.SaysMissing,
	}
	if m.a.Kind == api.AskGet && o.Kind == api.OutDone && fits(o.Blob.Code, o.Blob.Size, o.Blob.Nodes) {
		m.applied, m.blob = true, o.Blob
		return nil
	}
	if s, ok := says[[2]int{m.a.Kind, o.Kind}]; ok {
		return m.tell(s, nil)
	}
	return m.tell(api.SaysNot, nil)
}

func (m *model) tick(now int) []api.Told {
	if m.done || now-m.since < api.CallTime {
		return nil
	}
	return m.tell(api.SaysTimeout, nil)
}

func (m *model) look() string {
	cmd, ok := m.cmd()
	return fmt.Sprintf("%+v %+v %v %v", m.asks(11), cmd, ok, m.done)
}

// nodes is some nodes in some order.
func (d *dice) nodes(count int) []int {
	all := make([]int, api.MaxNodes)
	for i := range all {
		all[i] = i
	}
	for i := range all {
		j := i + d.roll(len(all)-i)
		all[i], all[j] = all[j], all[i]
	}
	return all[:count]
}

// blobOf is a blob that a get may be told of, with its shards.
func (d *dice) blobOf() (api.Blob, [][]byte) {
	c := api.Code{K: 1 + d.roll(3), M: d.roll(3)}
	b := api.Blob{ID: d.roll(20), Size: d.roll(60), Code: c, Nodes: d.nodes(c.K + c.M)}
	b.Sum = frame.Sum(whole(b.Size))
	shards, _ := stripe.Cut(c, whole(b.Size))
	switch d.roll(12) {
	case 0:
		b.Sum++
	case 1:
		b.Nodes = b.Nodes[1:]
	}
	return b, shards
}

// msg is a message that a call may hear: mostly as it is asked.
func (d *dice) msg(m *model, b api.Blob, shards [][]byte) api.Msg {
	var x api.Msg
	if m.placed {
		i := d.roll(len(m.nodes))
		x = api.Msg{Kind: api.MsgStored, OK: true, Blob: m.id, Index: i, From: m.nodes[i]}
	} else {
		i := d.roll(len(b.Nodes) + 1)
		x = api.Msg{Kind: api.MsgFetched, OK: true, Blob: b.ID, Index: i}
		if i < len(b.Nodes) {
			x.From, x.Bytes = b.Nodes[i], bytes.Clone(shards[i])
		}
	}
	switch d.roll(25) {
	case 0:
		x.OK = false
	case 1:
		x.Blob = d.roll(20)
	case 2:
		x.Index = d.roll(6) - 1
	case 3:
		x.From = d.roll(api.MaxNodes)
	case 4:
		x.Kind = d.roll(17)
	case 5:
		x.Bytes = make([]byte, d.roll(30))
	}
	return x
}

// P19.1 to P19.5: a call is the chapter's, over many scripts.
func TestModel(t *testing.T) {
	d, count := dice(1), map[int]int{}
	for range 6000 {
		a := api.Ask{ID: d.roll(9), Kind: 1 + d.roll(3), Key: "k"}
		if a.Kind == api.AskPut {
			a.Bytes = whole(d.roll(50))
		}
		m := &model{self: d.roll(16), id: 1 + d.roll(19), since: d.roll(100), a: a, stored: map[int]int{}, came: map[int][]byte{}}
		c, e := coord.New(m.self, a, m.id, m.since)
		is(t, "New", e, api.OK)
		b, shards := d.blobOf()
		for range 14 {
			now := m.since + d.roll(50)
			var got, want []api.Told
			var what string
			switch d.roll(8) {
			case 0, 1:
				k, n := 1+d.roll(3), d.roll(5)
				nodes := d.nodes(n)
				if d.roll(2) == 0 {
					k = n
				}
				what = fmt.Sprint("Place ", k, nodes)
				code := api.Code{K: k, M: n - k}
				is(t, what, c.Place(code, nodes), m.place(code, nodes))
			case 2:
				o := api.Out{Kind: 1 + d.roll(6), Blob: b, Epoch: 1}
				if d.roll(2) == 0 {
					o.Kind = api.OutDone
				}
				what, got, want = fmt.Sprintf("Applied %+v", o), c.Applied(o, now), m.hear(o)
			case 3:
				now = m.since + d.roll(63)
				what, got, want = fmt.Sprint("Tick ", now), c.Tick(now), m.tick(now)
			default:
				x := d.msg(m, b, shards)
				what, got, want = fmt.Sprintf("On %+v", x), c.On(x, now), m.on(x, now)
			}
			if fmt.Sprint(got) != fmt.Sprint(want) || look(c) != m.look() {
				t.Fatalf("%s: %v, %s, want %v, %s", what, got, look(c), want, m.look())
			}
			if len(want) > 0 {
				count[want[0].Says]++
			}
		}
	}
	for says := api.SaysOK; says <= api.SaysNot; says++ {
		if count[says] < 20 {
			t.Fatalf("%d was told %d times: too few to tell", says, count[says])
		}
	}
}
