package node_test

import (
	"testing"

	"amphora/api"
)

// A vote far behind all others has a node that votes alone fill the gap ahead
// of it: that ends when the disk is full, and the node goes on.
func TestGapWithoutEnd(t *testing.T) {
	n := openOn(t, 0, one, newPlate(t, 800))
	hears(t, n, api.Msg{Kind: api.MsgAccept, From: 0, To: 0, Ballot: 1, Slot: api.MaxNumber, Cmd: bCmd})
	ticks(t, n, 10)
	if slot := n.State().Slot(); !n.Leads() || slot < 100 || slot > 800 {
		t.Fatalf("leads %v, slot %d", n.Leads(), slot)
	}
	out, told, e := n.Ask(api.Ask{ID: 1, Kind: api.AskGet, Key: "a"})
	sends(t, out, told, e)
	ticks(t, n, 59)
	out, told, e = n.Tick()
	says(t, out, told, e, api.Told{ID: 1, Says: api.SaysTimeout})
}
