package node_test

import (
	"bytes"
	"fmt"
	"slices"
	"testing"

	"amphora/api"
	"amphora/drift"
	"amphora/epoch"
	"amphora/plate"
	"amphora/shelf"
	"amphora/stripe"
)

// dice is numbers that look thrown, the same ones at each run.
type dice uint32

func (d *dice) roll(n int) int {
	*d = *d*1664525 + 1013904223
	return int(uint32(*d) >> 8 % uint32(n))
}

// of is one of some.
func of[T any](d *dice, l ...T) T { return l[d.roll(len(l))] }

// net is nodes with their plates and clocks, and what is on the way between
// them.
type net struct {
	t       *testing.T
	setup   api.Setup
	plates  []*plate.Plate
	others  []*plate.Plate // those of the models
	nodes   []*pair        // nil, while one does not run
	clocks  *drift.Clocks
	packets []api.Msg
	events  []api.Event
	asked   int
	states  map[int]*epoch.State // each that a node ever had, by its slot
	last    int                  // the greatest of these
	trace   []string
}

func newNet(t *testing.T, s api.Setup) *net {
	t.Helper()
	w := &net{t: t, setup: s, states: map[int]*epoch.State{}}
	w.clocks, _ = drift.New(s.Nodes)
	for i := range s.Nodes {
		p, e := plate.New(s.Sectors)
		is(t, "plate", e, api.OK)
		w.plates = append(w.plates, p)
		w.others = append(w.others, p.Copy())
		w.nodes = append(w.nodes, nil)
		w.start(i)
	}
	return w
}

// fail stops the test, with all that was done.
func (w *net) fail(format string, args ...any) {
	w.t.Helper()
	tail := w.trace[max(0, len(w.trace)-60):]
	for _, line := range tail {
		w.t.Log(line)
	}
	w.t.Fatalf(format, args...)
}

func (w *net) note(format string, args ...any) {
	w.trace = append(w.trace, fmt.Sprintf(format, args...))
}

// take sends what a node answered, and has what it told in the journal. Its
// state is held against what others had.
func (w *net) take(i int) func(out []api.Msg, told []api.Told, e api.Errno) {
	return func(out []api.Msg, told []api.Told, e api.Errno) {
		w.t.Helper()
		if e != api.OK {
			w.fail("node %d: %v", i, e)
		}
		for _, m := range out {
			if m.From != i || m.To == i || m.To < 0 || m.To >= w.setup.Nodes {
				w.fail("node %d sends %+v", i, m)
			}
		}
		w.packets = append(w.packets, out...)
		for _, x := range told {
			w.events = append(w.events, api.Event{Answer: true, ID: x.ID, Kind: x.Says, Bytes: x.Bytes})
		}
		w.agree(i)
	}
}

// agree holds a node's state against those of as many slots that others had.
func (w *net) agree(i int) {
	w.t.Helper()
	s := w.nodes[i].real.State()
	other, ok := w.states[s.Slot()]
	if !ok {
		w.states[s.Slot()] = s
		w.last = max(w.last, s.Slot())
		return
	}
	if !s.Same(other) {
		w.fail("node %d has another configuration at slot %d", i, s.Slot())
	}
}

func (w *net) start(i int) {
	w.note("start %d", i)
	w.nodes[i] = openPair(w.t, i, w.setup, w.plates[i], w.others[i])
}

func (w *net) ask(i int, a api.Ask) {
	w.asked++
	a.ID = w.asked
	w.note("ask %d %+v", i, a)
	w.events = append(w.events, api.Event{ID: a.ID, Kind: a.Kind, Key: a.Key, Bytes: a.Bytes})
	w.take(i)(w.nodes[i].Ask(a))
}

func (w *net) admin(i int, c api.Cmd) {
	w.note("admin %d %+v", i, c)
	w.take(i)(w.nodes[i].Admin(c))
}

// deliver brings the packet of a place.
func (w *net) deliver(at int) {
	m := w.packets[at]
	w.packets = slices.Delete(w.packets, at, at+1)
	if w.nodes[m.To] != nil {
		w.note("deliver %+v", m)
		w.take(m.To)(w.nodes[m.To].On(m))
	}
}

func (w *net) tick(i int) {
	if w.clocks.Tick(i) == api.OK && w.nodes[i] != nil {
		w.note("tick %d", i)
		w.take(i)(w.nodes[i].Tick())
	}
}

// crash ends a node, whose plate keeps some sectors.
func (w *net) crash(i int, d *dice) {
	var keep []int
	dirty := w.plates[i].Dirty()
	for _, s := range dirty {
		if d.roll(2) == 0 {
			keep = append(keep, s)
		}
	}
	torn := -1
	if len(dirty) > 0 {
		torn = of(d, dirty...)
	}
	w.note("crash %d", i)
	w.nodes[i].crash(keep, torn, d.roll(api.Size+1))
	w.nodes[i] = nil
}

func (w *net) dead(i int) {
	w.note("dead %d", i)
	is(w.t, "Fail", w.plates[i].Fail(), api.OK)
	w.nodes[i] = nil
}

// settle has rounds in which all packets arrive and all clocks tick.
func (w *net) settle(rounds int) {
	for range rounds {
		for range len(w.packets) {
			w.deliver(0)
		}
		for i := range w.nodes {
			w.tick(i)
		}
	}
}

// busy is how much there is to do.
func (w *net) busy() int {
	sum := 0
	for _, n := range w.nodes {
		if n != nil {
			sum += n.real.Busy()
		}
	}
	return sum
}

// told is what the call of a number was told, or 0.
func (w *net) told(id int) (int, []byte) {
	for _, x := range w.events {
		if x.Answer && x.ID == id {
			return x.Kind, x.Bytes
		}
	}
	return 0, nil
}

// heldBy is the shards that a plate has for ever.
func (w *net) heldBy(i int) map[[2]int][]byte {
	held := map[[2]int][]byte{}
	p, e := plate.Of(w.plates[i].Image())
	if e != api.OK {
		return held
	}
	s, e := shelf.Open(p)
	if e != api.OK {
		w.fail("the plate of %d: %v", i, e)
	}
	for _, h := range s.Held() {
		held[[2]int{h.Blob, h.Index}] = h.Bytes
	}
	return held
}

// nothingLost is P2: each blob that nobody asked to delete has K shards, that
// are those of a put of its key.
func (w *net) nothingLost() {
	w.t.Helper()
	s := w.states[w.last]
	var held []map[[2]int][]byte
	for i := range w.plates {
		held = append(held, w.heldBy(i))
	}
	deleted := map[string]int{}
	for _, x := range w.events {
		if !x.Answer && x.Kind == api.AskDelete {
			deleted[x.Key]++
		}
	}
	for _, key := range s.Keys() {
		b, _ := s.Blob(key)
		all, count := make([][]byte, len(b.Nodes)), 0
		for index, n := range b.Nodes {
			if shard, ok := held[n][[2]int{b.ID, index}]; ok {
				all[index] = shard
				count++
			}
		}
		if deleted[key] > 0 {
			continue
		}
		if count < b.Code.K {
			w.fail("blob %+v of %q has %d shards", b, key, count)
		}
		whole, e := stripe.Join(b.Code, b.Size, all)
		if e != api.OK || !w.wasPut(key, whole) {
			w.fail("blob %+v of %q: %x, %v", b, key, whole, e)
		}
	}
}

func (w *net) wasPut(key string, b []byte) bool {
	return slices.ContainsFunc(w.events, func(x api.Event) bool {
		return !x.Answer && x.Kind == api.AskPut && x.Key == key && bytes.Equal(x.Bytes, b)
	})
}

// right is P1: there is an order of each key's calls in which a map that is
// written once tells what was told. The orders are tried one by one.
func (w *net) right() {
	w.t.Helper()
	byKey := map[string][]int{}
	for _, x := range w.events {
		if !x.Answer {
			byKey[x.Key] = append(byKey[x.Key], x.ID)
		}
	}
	for key, ids := range byKey {
		if !orders(w.callsOf(ids)) {
			w.fail("the calls of %q are in no order: %+v", key, w.callsOf(ids))
		}
	}
}

// asked is a call with its answer, and their places in the journal.
type asked struct {
	api.Event
	from, to int
	says     int
	got      []byte
}

func (w *net) callsOf(ids []int) []asked {
	var l []asked
	for _, id := range ids {
		x := asked{to: len(w.events)}
		for at, e := range w.events {
			switch {
			case e.ID != id:
			case !e.Answer:
				x.Event, x.from = e, at
			case e.Kind == api.SaysOK || e.Kind == api.SaysThere || e.Kind == api.SaysMissing:
				x.to, x.says, x.got = at, e.Kind, e.Bytes
			}
		}
		l = append(l, x)
	}
	return l
}

// orders tells whether calls have an order. A key is empty, has bytes, or is
// gone.
func orders(calls []asked) bool {
	if len(calls) > 20 {
		return true // too many to try
	}
	type at struct {
		done    int
		by      int // the put whose bytes it has, from 1 on
		deleted int
	}
	seen := map[at]int{}
	var try func(x at) bool
	try = func(x at) bool {
		if seen[x]++; seen[x] > 1 {
			return false
		}
		end, open := 1<<60, false
		for i, c := range calls {
			if x.done>>i&1 == 0 {
				end = min(end, c.to)
				open = open || c.says != 0
			}
		}
		if !open {
			return true
		}
		for i, c := range calls {
			if x.done>>i&1 == 1 || c.from > end {
				continue
			}
			next, says := x, api.SaysMissing
			next.done |= 1 << i
			has := x.by > 0 && x.deleted == 0
			switch {
			case c.Kind == api.AskPut && x.by == 0:
				says, next.by = api.SaysOK, i+1
			case c.Kind == api.AskPut:
				says = api.SaysThere
			case c.Kind == api.AskDelete && has:
				says, next.deleted = api.SaysOK, 1
			case c.Kind == api.AskGet && has:
				says = api.SaysOK
				if c.says == api.SaysOK && !bytes.Equal(c.got, calls[x.by-1].Bytes) {
					continue
				}
			}
			if (c.says == 0 || c.says == says) && try(next) {
				return true
			}
		}
		return false
	}
	return try(at{})
}

func is(t *testing.T, what string, e, want api.Errno) {
	t.Helper()
	if e != want {
		t.Fatalf("%s: %v, want %v", what, e, want)
	}
}
