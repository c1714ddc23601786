package cluster_test

import (
	"bytes"
	"fmt"
	"slices"
	"testing"

	"amphora/api"
	"amphora/cluster"
	"amphora/drift"
	"amphora/epoch"
	"amphora/node"
	"amphora/plate"
	"amphora/post"
)

// plain is a cluster by the chapter's words.
type plain struct {
	setup  api.Setup
	plates []*plate.Plate
	runs   map[int]*node.Node
	clocks *drift.Clocks
	post   *post.Post
	lines  []api.Event
	next   int // the number of the next call
}

func newPlain(s api.Setup) *plain {
	p := &plain{setup: s, runs: map[int]*node.Node{}, post: post.New(), next: 1}
	p.clocks, _ = drift.New(s.Nodes)
	for i := range s.Nodes {
		disk, _ := plate.New(s.Sectors)
		p.plates = append(p.plates, disk)
		p.runs[i], _ = node.Open(i, s, disk)
	}
	return p
}

// answers is what becomes of what a node answers.
func (p *plain) answers(out []api.Msg, told []api.Told, e api.Errno) api.Errno {
	for _, m := range out {
		p.post.Send(m)
	}
	for _, x := range told {
		p.lines = append(p.lines, api.Event{Answer: true, ID: x.ID, Kind: x.Says, Bytes: x.Bytes})
	}
	return e
}

func (p *plain) deliver(id int) api.Errno {
	m, e := p.post.Take(id)
	if n, ok := p.runs[m.To]; e == api.OK && ok {
		p.answers(n.On(m))
	}
	return e
}

func (p *plain) tick(i int) api.Errno {
	e := p.clocks.Tick(i)
	if n, ok := p.runs[i]; e == api.OK && ok {
		p.answers(n.Tick())
	}
	return e
}

// round is a fair one.
func (p *plain) round() {
	var ids []int
	for _, x := range p.post.Packets() {
		ids = append(ids, x.ID)
	}
	for _, id := range ids {
		p.deliver(id)
	}
	for i := range p.setup.Nodes {
		p.tick(i)
	}
}

func (p *plain) Do(s api.Step) api.Errno {
	if slices.Contains([]int{api.StepDeliver, api.StepLose, api.StepTwice, api.StepSettle}, s.Kind) {
		return p.rest(s)
	}
	if s.Kind < api.StepAsk || s.Kind > api.StepSettle || s.Node < 0 || s.Node > p.setup.Nodes-1 {
		return api.ErrArg
	}
	n, runs := p.runs[s.Node]
	if !runs && slices.Contains([]int{api.StepAsk, api.StepAdmin, api.StepCrash}, s.Kind) || runs && s.Kind == api.StepStart {
		return api.ErrDown
	}
	switch s.Kind {
	case api.StepAsk:
		s.Ask.ID = p.next
		p.next++
		p.lines = append(p.lines, api.Event{ID: s.Ask.ID, Kind: s.Ask.Kind, Key: s.Ask.Key, Bytes: bytes.Clone(s.Ask.Bytes)})
		return p.answers(n.Ask(s.Ask))
	case api.StepAdmin:
		return p.answers(n.Admin(s.Cmd))
	case api.StepTick:
		return p.tick(s.Node)
	case api.StepCrash:
		p.plates[s.Node].Crash(s.Keep, s.Torn, s.Bytes)
		delete(p.runs, s.Node)
		return api.OK
	case api.StepStart:
		n, e := node.Open(s.Node, p.setup, p.plates[s.Node])
		if e == api.OK {
			p.runs[s.Node] = n
		}
		return e
	}
	e := p.plates[s.Node].Fail()
	if e == api.OK {
		delete(p.runs, s.Node)
	}
	return e
}

// rest is the steps that name no node.
func (p *plain) rest(s api.Step) api.Errno {
	switch s.Kind {
	case api.StepDeliver:
		return p.deliver(s.N)
	case api.StepLose:
		return p.post.Lose(s.N)
	case api.StepTwice:
		_, e := p.post.Twice(s.N)
		return e
	}
	if s.N < 0 || s.N > 300 {
		return api.ErrArg
	}
	for range s.N {
		p.round()
	}
	return api.OK
}

func (p *plain) Busy() int {
	sum := 0
	for i := range p.setup.Nodes {
		if n, ok := p.runs[i]; ok {
			sum += n.Busy()
		}
	}
	return sum
}

// pair is a cluster and its model. What the cluster is handed, and what it
// tells, is written over behind each call: so the model tells, too, whether it
// keeps or hands out any of that.
type pair struct {
	t     *testing.T
	real  *cluster.Cluster
	like  *plain
	steps []api.Step
}

func newPair(t *testing.T, s api.Setup) *pair {
	t.Helper()
	c, e := cluster.New(s)
	is(t, "New", e, api.OK)
	p := &pair{t: t, real: c, like: newPlain(s)}
	p.same()
	return p
}

func is(t *testing.T, what string, e, want api.Errno) {
	t.Helper()
	if e != want {
		t.Fatalf("%s: %v, want %v", what, e, want)
	}
}

// fail stops the test, with the last steps.
func (p *pair) fail(format string, args ...any) {
	p.t.Helper()
	for _, s := range p.steps[max(0, len(p.steps)-80):] {
		p.t.Logf("%+v", s)
	}
	p.t.Fatalf(format, args...)
}

// roomy is a list with more behind its end.
func roomy[T any](l []T) []T {
	var more [3]T
	return append(slices.Clone(l), more[:]...)[:len(l)]
}

// spoil writes over all that a list reaches.
func spoil[T any](l []T, with T) {
	l = l[:cap(l)]
	for i := range l {
		l[i] = with
	}
}

// looked is all that a step reaches, the room behind its lists included.
func looked(s api.Step) string {
	return fmt.Sprintf("%+v %v %v %v", s, s.Ask.Bytes[:cap(s.Ask.Bytes)], s.Cmd.Nodes[:cap(s.Cmd.Nodes)], s.Keep[:cap(s.Keep)])
}

// Do does a step with both.
func (p *pair) Do(s api.Step) api.Errno {
	p.t.Helper()
	p.steps = append(p.steps, s)
	given := s
	given.Ask.Bytes, given.Cmd.Nodes, given.Keep = roomy(s.Ask.Bytes), roomy(s.Cmd.Nodes), roomy(s.Keep)
	before := looked(given)
	e := p.real.Do(given)
	if looked(given) != before {
		p.fail("a step that was handed in is changed: %s", before)
	}
	spoil(given.Ask.Bytes, 0xee)
	spoil(given.Cmd.Nodes, 13)
	spoil(given.Keep, 2)
	if want := p.like.Do(s); e != want {
		p.fail("%+v: %v, want %v", s, e, want)
	}
	if len(p.steps)%20 == 0 {
		p.same()
	}
	return e
}

// same holds all that a cluster tells against the model's.
func (p *pair) same() {
	p.t.Helper()
	journal := p.real.Journal()
	if got, want := fmt.Sprintf("%+v", journal), fmt.Sprintf("%+v", p.like.lines); got != want {
		p.fail("Journal:\n%s\nwant\n%s", got, want)
	}
	for _, x := range journal {
		spoil(x.Bytes, 0xee)
	}
	spoil(journal, api.Event{Answer: true, ID: 7})
	packets := p.real.Packets()
	if got, want := fmt.Sprintf("%+v", packets), fmt.Sprintf("%+v", p.like.post.Packets()); got != want {
		p.fail("Packets:\n%s\nwant\n%s", got, want)
	}
	for _, x := range packets {
		spoil(x.Msg.Bytes, 0xee)
		spoil(x.Msg.Cmd.Nodes, 13)
		for _, v := range x.Msg.Votes {
			spoil(v.Cmd.Nodes, 13)
		}
		spoil(x.Msg.Votes, api.Vote{Slot: 3})
	}
	spoil(packets, api.Sent{ID: 1})
	if got, want := p.real.Busy(), p.like.Busy(); got != want {
		p.fail("Busy %d, want %d", got, want)
	}
	for i := range p.like.setup.Nodes {
		p.sameNode(i)
	}
}

func (p *pair) sameNode(i int) {
	p.t.Helper()
	if got, want := p.real.Now(i), p.like.clocks.Now(i); got != want {
		p.fail("Now(%d) %d, want %d", i, got, want)
	}
	one, other := p.real.Plate(i), p.like.plates[i]
	if one.Failed() != other.Failed() || !slices.Equal(one.Dirty(), other.Dirty()) || !slices.EqualFunc(one.Image(), other.Image(), bytes.Equal) {
		p.fail("node %d has another plate", i)
	}
	if one != p.real.Plate(i) {
		p.fail("Plate(%d) is another one each time", i)
	}
	s, n := p.real.State(i), p.like.runs[i]
	if n == nil {
		if s != nil {
			p.fail("node %d does not run, and has a state", i)
		}
		return
	}
	if !s.Same(n.State()) {
		p.fail("node %d has another state", i)
	}
	s.Apply(api.Cmd{ID: 7, Kind: api.CmdWidth, Code: api.Code{K: 1}})
}

// Short forms of steps.
func (p *pair) ask(i, kind int, key string, b []byte) api.Errno {
	p.t.Helper()
	return p.Do(api.Step{Kind: api.StepAsk, Node: i, Ask: api.Ask{Kind: kind, Key: key, Bytes: b}})
}

func (p *pair) admin(i int, c api.Cmd) api.Errno {
	p.t.Helper()
	return p.Do(api.Step{Kind: api.StepAdmin, Node: i, Cmd: c})
}

func (p *pair) at(kind, i int) api.Errno {
	p.t.Helper()
	return p.Do(api.Step{Kind: kind, Node: i, Torn: -1})
}

func (p *pair) of(kind, n int) api.Errno {
	p.t.Helper()
	return p.Do(api.Step{Kind: kind, N: n})
}

func (p *pair) settle(rounds int) {
	p.t.Helper()
	is(p.t, "settle", p.of(api.StepSettle, rounds), api.OK)
}

// told is what the call of a number was told, or 0.
func (p *pair) told(id int) (int, []byte) {
	for _, x := range p.real.Journal() {
		if x.Answer && x.ID == id {
			return x.Kind, x.Bytes
		}
	}
	return 0, nil
}

// furthest is the state with the greatest slot of those that nodes have now.
func (p *pair) furthest() *epoch.State {
	var best *epoch.State
	for i := range p.like.setup.Nodes {
		if s := p.real.State(i); s != nil && (best == nil || s.Slot() > best.Slot()) {
			best = s
		}
	}
	return best
}
