package drift_test

import (
	"fmt"
	"slices"
	"testing"

	"amphora/api"
	"amphora/drift"
)

// lead is that of clock b over clock a by its definition, behind these ticks.
func lead(ticks []int, b, a int) int {
	n := 0
	for _, node := range ticks {
		switch node {
		case b:
			n++
		case a:
			n = max(n-2, 0)
		}
	}
	return n
}

// may tells by its definition whether a clock may tick behind these ticks.
func may(ticks []int, nodes, node int) bool {
	for other := range nodes {
		if other != node && lead(ticks, node, other) == api.Ahead {
			return false
		}
	}
	return true
}

// counts is how many ticks each clock has made.
func counts(ticks []int, nodes int) []int {
	l := make([]int, nodes)
	for _, node := range ticks {
		l[node]++
	}
	return l
}

// replayed is clocks behind these ticks.
func replayed(t *testing.T, nodes int, ticks []int) *drift.Clocks {
	t.Helper()
	c := clocks(t, nodes)
	for _, node := range ticks {
		tick(t, c, node, api.OK)
	}
	return c
}

// unlike tells where, in the stretches that end with the last of these ticks,
// a clock goes further than another one by more than it may (P10.3), or makes
// Wait(n) ticks while another one makes n or fewer (P10.4).
func unlike(ticks []int, nodes int) string {
	made := make([]int, nodes)
	for from := len(ticks) - 1; from >= 0; from-- {
		made[ticks[from]]++
		most, least := slices.Max(made), slices.Min(made)
		if most > 2*least+api.Ahead {
			return fmt.Sprintf("%d ticks of one clock, %d of another one", most, least)
		}
		if most >= drift.Wait(least) {
			return fmt.Sprintf("%d ticks, and only %d of another one", most, least)
		}
	}
	return ""
}

// follow goes through all scripts of ticks that may be behind these ones.
func follow(t *testing.T, nodes, most int, ticks []int) {
	t.Helper()
	tell(t, replayed(t, nodes, ticks), counts(ticks, nodes)...)
	if fault := unlike(ticks, nodes); fault != "" {
		t.Fatalf("%d clocks, %v: %s", nodes, ticks, fault)
	}
	goes := false
	for node := range nodes {
		c := replayed(t, nodes, ticks)
		if !may(ticks, nodes, node) {
			tick(t, c, node, api.ErrDrift)
			continue
		}
		goes = true
		tick(t, c, node, api.OK)
		if most > 0 {
			follow(t, nodes, most-1, append(slices.Clone(ticks), node))
		}
	}
	if !goes {
		t.Fatalf("%d clocks, %v: none may tick", nodes, ticks)
	}
}

// P10.1, P10.3, P10.4, P10.5: in all short scripts the clocks tick as their
// definition has it, are not too unlike in any stretch, and one of them may
// always tick.
func TestAllShortScripts(t *testing.T) {
	for nodes, most := range map[int]int{1: 12, 2: 12, 3: 8, 4: 6} {
		follow(t, nodes, most, nil)
	}
}

// dice is numbers that hang on the seed alone.
type dice uint32

func (d *dice) below(n int) int {
	*d = *d*1664525 + 1013904223
	return int(*d>>8) % n
}

// order is how the clocks try to tick; those that may not are gone by.
func order(d *dice, seed, nodes int) []int {
	l := make([]int, nodes)
	for i := range l {
		l[i] = i
	}
	switch seed % 3 {
	case 0: // any
		for i := range l {
			k := i + d.below(nodes-i)
			l[i], l[k] = l[k], l[i]
		}
	case 1: // the first ones run as far ahead as they may
	case 2: // so do the last ones, most of the time
		if d.below(4) > 0 {
			slices.Reverse(l)
		}
	}
	return l
}

// P10.1, P10.3, P10.4, P10.5: so it is in long scripts, of any number of
// clocks.
func TestLongScripts(t *testing.T) {
	for seed := range 3 * api.MaxNodes {
		d, nodes := dice(seed), 1+seed/3
		c := clocks(t, nodes)
		var ticks []int
		for range 150 {
			ticked := false
			for _, node := range order(&d, seed, nodes) {
				if !may(ticks, nodes, node) {
					tick(t, c, node, api.ErrDrift)
					continue
				}
				tick(t, c, node, api.OK)
				ticks, ticked = append(ticks, node), true
				break
			}
			if !ticked {
				t.Fatalf("%d clocks, %v: none may tick", nodes, ticks)
			}
			if fault := unlike(ticks, nodes); fault != "" {
				t.Fatalf("%d clocks, %v: %s", nodes, ticks, fault)
			}
		}
		tell(t, c, counts(ticks, nodes)...)
	}
}
