package node_test

import (
	"bytes"
	"fmt"
	"slices"
	"testing"

	"amphora/api"
	"amphora/clone"
	"amphora/node"
	"amphora/plate"
)

// pair is a node and its model, on plates of their own. What the node is
// handed, and what it tells, is written over behind each call: so the model
// tells, too, whether it keeps or hands out any of that.
type pair struct {
	t            *testing.T
	real         *node.Node
	like         *plain
	plate, other *plate.Plate
	calls        int
}

func openPair(t *testing.T, self int, s api.Setup, one, other *plate.Plate) *pair {
	t.Helper()
	n, e := node.Open(self, s, one)
	is(t, "Open", e, api.OK)
	p := &pair{t: t, real: n, like: openPlain(self, s, other), plate: one, other: other}
	p.same()
	return p
}

// roomy is a list with more behind its end.
func roomy[T any](l []T) []T {
	var more [3]T
	return append(slices.Clone(l), more[:]...)[:len(l)]
}

// spoil writes over all that a list reaches.
func spoil[T any](l []T, with T) {
	l = l[:cap(l)]
	for i := range l {
		l[i] = with
	}
}

func roomyCmd(c api.Cmd) api.Cmd {
	c.Nodes = roomy(c.Nodes)
	return c
}

func roomyMsg(m api.Msg) api.Msg {
	m.Cmd, m.Bytes, m.Votes = roomyCmd(m.Cmd), roomy(m.Bytes), roomy(m.Votes)
	for i := range m.Votes {
		m.Votes[i].Cmd = roomyCmd(m.Votes[i].Cmd)
	}
	return m
}

// looked is all that a message reaches, the room behind its lists included.
func looked(m api.Msg) string {
	s := fmt.Sprintf("%+v %v %v %v", m, m.Cmd.Nodes[:cap(m.Cmd.Nodes)], m.Votes[:cap(m.Votes)], m.Bytes[:cap(m.Bytes)])
	for _, v := range m.Votes {
		s += fmt.Sprint(v.Cmd.Nodes[:cap(v.Cmd.Nodes)])
	}
	return s
}

func spoilMsg(m api.Msg) {
	spoil(m.Cmd.Nodes, 13)
	spoil(m.Bytes, 0xee)
	for _, v := range m.Votes {
		spoil(v.Cmd.Nodes, 13)
	}
	spoil(m.Votes, api.Vote{Slot: 1, Ballot: 77, Cmd: api.Cmd{ID: 99}})
}

// answer is what a call answers.
type answer struct {
	out  []api.Msg
	told []api.Told
	e    api.Errno
}

func answerOf(out []api.Msg, told []api.Told, e api.Errno) answer { return answer{out, told, e} }

// taken is a copy of an answer, which is then written over.
func (a answer) taken() answer {
	c := answer{e: a.e}
	for _, m := range a.out {
		c.out = append(c.out, clone.Msg(m))
	}
	for _, x := range a.told {
		x.Bytes = bytes.Clone(x.Bytes)
		c.told = append(c.told, x)
	}
	for _, m := range a.out {
		spoilMsg(m)
	}
	for _, x := range a.told {
		spoil(x.Bytes, 0xee)
	}
	spoil(a.out, api.Msg{Kind: 3})
	spoil(a.told, api.Told{ID: 5})
	return c
}

// both holds a node's answer against the model's.
func (p *pair) both(what string, real, like answer) ([]api.Msg, []api.Told, api.Errno) {
	p.t.Helper()
	real = real.taken()
	if got, want := fmt.Sprintf("%+v", real), fmt.Sprintf("%+v", like); got != want {
		p.t.Fatalf("node %d, %s:\n%s\nwant\n%s", p.like.self, what, got, want)
	}
	p.calls++
	if p.calls%50 == 0 {
		p.same()
	}
	return real.out, real.told, real.e
}

// same holds all that a node tells, and its plate, against the model's.
func (p *pair) same() {
	p.t.Helper()
	if got, want := p.real.Leads(), p.like.leads(); got != want {
		p.t.Fatalf("Leads %v", got)
	}
	if got, want := p.real.Busy(), p.like.Busy(); got != want {
		p.t.Fatalf("Busy %d, want %d", got, want)
	}
	if got, want := p.real.Life(), p.like.shelf.Life(); got != want {
		p.t.Fatalf("Life %d, want %d", got, want)
	}
	s := p.real.State()
	if !s.Same(p.like.state) {
		p.t.Fatal("another state")
	}
	s.Apply(api.Cmd{ID: 7, Kind: api.CmdWidth, Code: api.Code{K: 1}})
	held := p.real.Held()
	if got, want := fmt.Sprint(held), fmt.Sprint(p.like.shelf.Held()); got != want {
		p.t.Fatalf("Held %s, want %s", got, want)
	}
	for _, h := range held {
		spoil(h.Bytes, 0xee)
	}
	if !slices.Equal(p.plate.Dirty(), p.other.Dirty()) || !slices.EqualFunc(p.plate.Image(), p.other.Image(), bytes.Equal) {
		p.t.Fatal("another plate")
	}
}

func (p *pair) Ask(a api.Ask) ([]api.Msg, []api.Told, api.Errno) {
	p.t.Helper()
	given := a
	given.Bytes = roomy(a.Bytes)
	before := fmt.Sprint(given.Bytes[:cap(given.Bytes)])
	got := answerOf(p.real.Ask(given))
	if fmt.Sprint(given.Bytes[:cap(given.Bytes)]) != before {
		p.t.Fatal("what Ask was handed is changed")
	}
	spoil(given.Bytes, 0xee)
	return p.both(fmt.Sprintf("Ask %+v", a), got, answerOf(p.like.Ask(a)))
}

func (p *pair) Admin(c api.Cmd) ([]api.Msg, []api.Told, api.Errno) {
	p.t.Helper()
	given := roomyCmd(c)
	before := fmt.Sprint(given.Nodes[:cap(given.Nodes)])
	got := answerOf(p.real.Admin(given))
	if fmt.Sprint(given.Nodes[:cap(given.Nodes)]) != before {
		p.t.Fatal("what Admin was handed is changed")
	}
	spoil(given.Nodes, 13)
	return p.both(fmt.Sprintf("Admin %+v", c), got, answerOf(p.like.Admin(c)))
}

func (p *pair) On(m api.Msg) ([]api.Msg, []api.Told, api.Errno) {
	p.t.Helper()
	given := roomyMsg(m)
	before := looked(given)
	got := answerOf(p.real.On(given))
	if looked(given) != before {
		p.t.Fatal("what On was handed is changed")
	}
	spoilMsg(given)
	return p.both(fmt.Sprintf("On %+v", m), got, answerOf(p.like.On(m)))
}

func (p *pair) Tick() ([]api.Msg, []api.Told, api.Errno) {
	p.t.Helper()
	return p.both("Tick", answerOf(p.real.Tick()), answerOf(p.like.Tick()))
}

// crash has both plates keep the same.
func (p *pair) crash(keep []int, torn, n int) {
	p.t.Helper()
	p.same()
	is(p.t, "Crash", p.plate.Crash(keep, torn, n), api.OK)
	is(p.t, "Crash", p.other.Crash(keep, torn, n), api.OK)
}
