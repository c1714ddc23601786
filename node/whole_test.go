package node_test

import (
	"testing"

	"amphora/api"
)

// keyOf is one of few keys, so that calls meet.
func keyOf(d *dice) string { return of(d, "a", "b", "c", "d") }

// step does one thing that a script may do.
func (w *net) step(d *dice) {
	i := d.roll(w.setup.Nodes)
	running := w.nodes[i] != nil
	switch r := d.roll(100); {
	case r < 8 && running && w.asked < 60:
		a := api.Ask{Kind: of(d, api.AskPut, api.AskPut, api.AskGet, api.AskGet, api.AskGet, api.AskDelete), Key: keyOf(d)}
		if a.Kind == api.AskPut {
			a.Bytes = make([]byte, d.roll(40))
			for j := range a.Bytes {
				a.Bytes[j] = byte(d.roll(256))
			}
		}
		w.ask(i, a)
	case r < 10 && running:
		w.order(i, d)
	case r < 50 && len(w.packets) > 0:
		w.deliver(d.roll(len(w.packets)))
	case r < 53 && len(w.packets) > 0:
		at := d.roll(len(w.packets))
		w.packets = append(w.packets[:at], w.packets[at+1:]...)
	case r < 55 && len(w.packets) > 0:
		w.packets = append(w.packets, w.packets[d.roll(len(w.packets))])
	case r < 85:
		w.tick(i)
	case r < 86 && running:
		w.crash(i, d)
	case r < 92 && !running && !w.plates[i].Failed():
		w.start(i)
	case r < 94:
		w.settle(d.roll(12))
	}
}

// order gives a command that may change something.
func (w *net) order(i int, d *dice) {
	x := d.roll(w.setup.Nodes)
	switch d.roll(7) {
	case 0, 1:
		w.admin(i, api.Cmd{Kind: api.CmdMove, Key: keyOf(d), Index: d.roll(3), Node: x})
	case 2, 3:
		k := 1 + d.roll(2)
		w.admin(i, api.Cmd{Kind: api.CmdRecode, Key: keyOf(d), Code: api.Code{K: k, M: 1 + d.roll(2)}})
	case 4:
		w.admin(i, api.Cmd{Kind: of(d, api.CmdAdmit, api.CmdRetire), Node: x})
	case 5:
		var voters []int
		for n := range w.setup.Nodes {
			if d.roll(2) == 0 {
				voters = append(voters, n)
			}
		}
		w.admin(i, api.Cmd{Kind: api.CmdVoters, Nodes: voters})
	case 6:
		w.admin(i, api.Cmd{Kind: api.CmdWidth, Code: api.Code{K: 1 + d.roll(2), M: 1 + d.roll(2)}})
	}
}

// alive tells whether of each slot that somebody still has to learn more than
// half of the voters have a disk.
func (w *net) alive() bool {
	first := w.last
	for _, n := range w.nodes {
		if n != nil {
			first = min(first, n.real.State().Slot())
		}
	}
	for slot := first; slot <= w.last+api.Alpha; slot++ {
		voters := w.states[w.last].Voters(slot)
		count := 0
		for _, v := range voters {
			if !w.plates[v].Failed() {
				count++
			}
		}
		if 2*count <= len(voters) {
			return false
		}
	}
	return true
}

// P1 to P5: many scripts, with all that may go wrong. In each second one a
// disk fails, and one shard of each blob may be lost.
func TestScripts(t *testing.T) {
	answered, alive := map[int]int{}, 0
	for seed := range 40 {
		d := dice(seed)
		nodes := 2 + d.roll(5)
		w := newNet(t, api.Setup{Nodes: nodes, Voters: 1 + d.roll(nodes), Sectors: 4000, Code: api.Code{K: 1 + d.roll(nodes-1), M: 1}})
		lost := -1
		for i := range 600 {
			w.step(&d)
			if i == 300 && seed%2 == 1 {
				lost = d.roll(nodes)
				w.dead(lost)
			}
		}
		w.nothingLost()
		w.restart()
		w.settle(30)
		for i := range w.nodes {
			if lost >= 0 && i != lost {
				w.admin(i, api.Cmd{Kind: api.CmdFail, Node: lost})
			}
		}
		for range 20 {
			if w.settle(30); w.busy() == 0 {
				break
			}
		}
		if w.alive() {
			alive++
			if w.busy() > 0 {
				w.fail("seed %d: still busy: %d", seed, w.busy())
			}
		}
		w.nothingLost()
		w.right()
		for _, e := range w.events {
			if e.Answer {
				answered[e.Kind]++
			}
		}
	}
	for says := api.SaysOK; says <= api.SaysNot; says++ {
		if answered[says] < 20 {
			t.Errorf("%d was told %d times: too few to tell", says, answered[says])
		}
	}
	if alive < 25 {
		t.Errorf("%d nets had enough voters at the end: too few to tell", alive)
	}
}

// restart opens all nodes that do not run, and have a disk.
func (w *net) restart() {
	for i, n := range w.nodes {
		if n == nil && !w.plates[i].Failed() {
			w.start(i)
		}
	}
}
