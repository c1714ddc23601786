package desk_test

import (
	"fmt"
	"slices"
	"strings"
	"testing"

	"amphora/api"
	"amphora/audit"
	"amphora/cluster"
	"amphora/desk"
	"amphora/epoch"
	"amphora/history"
)

// play is a script that is thought of line by line, beside a cluster that does
// each step at once, and shows what to think of next.
type play struct {
	t      *testing.T
	c      *cluster.Cluster
	nodes  int
	script string
	want   []string // what Run shall tell
	told   int      // how much of the journal stands there
	right  int      // how much of it is known to be right
	states map[int]*epoch.State
	last   int // the greatest slot that a node ever had
}

func newPlay(t *testing.T, nodes, voters, sectors, k, m int) *play {
	t.Helper()
	p := &play{t: t, nodes: nodes, states: map[int]*epoch.State{}}
	p.script = fmt.Sprintf("cluster %d %d %d %d %d\n", nodes, voters, sectors, k, m)
	s, _, err := desk.Parse(p.script)
	if err != nil {
		t.Fatal(err)
	}
	var e api.Errno
	if p.c, e = cluster.New(s); e != api.OK {
		t.Fatal(e)
	}
	return p
}

func (p *play) fail(format string, args ...any) {
	p.t.Helper()
	p.t.Fatalf("%s\nof the script\n%s", fmt.Sprintf(format, args...), p.script)
}

// do has a line be one more of the script.
func (p *play) do(format string, args ...any) api.Errno {
	p.t.Helper()
	line := fmt.Sprintf(format, args...)
	_, steps, err := desk.Parse(head + line)
	if err != nil || len(steps) != 1 {
		p.fail("%q: %v, %v", line, steps, err)
	}
	p.script += line + "\n"
	e := p.c.Do(steps[0])
	if e == api.OK {
		p.want = append(p.want, "ok")
	} else {
		p.want = append(p.want, fmt.Sprintf("error %d", e))
	}
	journal := p.c.Journal()
	for _, x := range journal[p.told:] {
		if x.Answer {
			p.want = append(p.want, strings.TrimSuffix(fmt.Sprintf("told %d %d %x", x.ID, x.Kind, x.Bytes), " "))
		}
	}
	p.told = len(journal)
	return e
}

// step does one that was thought of as a step.
func (p *play) step(s api.Step) api.Errno {
	p.t.Helper()
	line, e := desk.Print(s)
	if e != api.OK {
		p.fail("%+v: %v", s, e)
	}
	return p.do("%s", line)
}

// must has a line be done.
func (p *play) must(format string, args ...any) {
	p.t.Helper()
	if e := p.do(format, args...); e != api.OK {
		p.fail("%v", e)
	}
}

// ends has the script, run as a text, tell what the cluster told, and P1, P2
// and P4 hold at its end.
func (p *play) ends() {
	p.t.Helper()
	p.seen()
	p.nothingLost()
	got, err := desk.Run(p.script)
	if err != nil || !slices.Equal(got, p.want) {
		p.fail("%v: %q, not %q", err, got, p.want)
	}
}

// answer is what a call was told: what it says, and the bytes; 0, if nothing.
func (p *play) answer(id int) (int, string) {
	for _, x := range p.c.Journal() {
		if x.Answer && x.ID == id {
			return x.Kind, string(x.Bytes)
		}
	}
	return 0, ""
}

// says has a call be told.
func (p *play) says(id, says int, bytes string) {
	p.t.Helper()
	if got, b := p.answer(id); got != says || b != bytes {
		p.fail("call %d was told %d, %q, not %d, %q", id, got, b, says, bytes)
	}
}

// seen holds a cluster against P1, and P4: each state against those that nodes
// had at its slot, and epochs, which never fall.
func (p *play) seen() {
	p.t.Helper()
	if l := p.c.Journal(); len(l) > p.right {
		if !history.May(l) || !history.Check(l) {
			p.fail("the journal is not right: %+v", l)
		}
		p.right = len(l)
	}
	for i := range p.nodes {
		s := p.c.State(i)
		if s == nil {
			continue
		}
		other, ok := p.states[s.Slot()]
		if ok && !s.Same(other) {
			p.fail("node %d has another configuration at slot %d", i, s.Slot())
		}
		if ok {
			continue
		}
		p.states[s.Slot()] = s
		p.last = max(p.last, s.Slot())
		for slot, other := range p.states {
			if slot < s.Slot() && other.Epoch() > s.Epoch() || slot > s.Slot() && other.Epoch() < s.Epoch() {
				p.fail("an epoch falls between the slots %d and %d", slot, s.Slot())
			}
		}
	}
}

// blob is a key's, as the furthest configuration has it.
func (p *play) blob(key string) api.Blob {
	p.seen()
	b, _ := p.states[p.last].Blob(key)
	return b
}

// spare is a node on which a key's blob has nothing.
func (p *play) spare(key string) int {
	for n := range p.nodes {
		if !slices.Contains(p.blob(key).Nodes, n) {
			return n
		}
	}
	p.fail("no node is spare")
	return -1
}

func (p *play) images() [][][]byte {
	var l [][][]byte
	for i := range p.nodes {
		l = append(l, p.c.Plate(i).Image())
	}
	return l
}

// nothingLost is P2: each blob of the furthest configuration that nobody asked
// to delete is sound, with the bytes of a put of its key.
func (p *play) nothingLost() {
	p.t.Helper()
	images, journal := p.images(), p.c.Journal()
	asked := func(kind int, key string, and func(b []byte) bool) bool {
		return slices.ContainsFunc(journal, func(x api.Event) bool {
			return !x.Answer && x.Kind == kind && x.Key == key && and(x.Bytes)
		})
	}
	s := p.states[p.last]
	for _, key := range s.Keys() {
		b, _ := s.Blob(key)
		if !asked(api.AskDelete, key, func([]byte) bool { return true }) &&
			!asked(api.AskPut, key, func(bytes []byte) bool { return audit.Sound(images, b, bytes) }) {
			p.fail("blob %+v of %q is not sound", b, key)
		}
	}
}
