package chain_test

import (
	"fmt"
	"slices"
	"testing"

	"amphora/api"
	"amphora/chain"
)

// model is a chain by the chapter's words: all that was learned, as it came.
type model []entry

type entry struct {
	slot int
	cmd  api.Cmd
}

func (m model) get(slot int) (api.Cmd, bool) {
	for _, e := range m {
		if e.slot == slot {
			return e.cmd, true
		}
	}
	return api.Cmd{}, false
}

func (m *model) learn(slot int, x api.Cmd) api.Errno {
	if slot < 1 || slot > api.MaxNumber {
		return api.ErrArg
	}
	there, ok := m.get(slot)
	if ok && text(there) != text(x) {
		return api.ErrClash
	}
	*m = append(*m, entry{slot, x})
	return api.OK
}

func (m model) next() int {
	slot := 1
	for {
		if _, ok := m.get(slot); !ok {
			return slot
		}
		slot++
	}
}

func (m model) from(slot, most int) []string {
	var l []string
	for slot = max(slot, 1); len(l) < most; slot++ {
		x, ok := m.get(slot)
		if !ok {
			break
		}
		l = append(l, text(x))
	}
	return l
}

// check has a chain tell what the model does, of the slots up to some number.
func (m model) check(t *testing.T, c *chain.Chain, last int) {
	t.Helper()
	next(t, c, m.next())
	for slot := -1; slot <= last; slot++ {
		if x, ok := m.get(slot); ok {
			has(t, c, slot, x)
		} else {
			none(t, c, slot)
		}
		for _, most := range []int{-1, 0, 1, 2, last + 9} {
			var got []string
			for _, x := range c.From(slot, most) {
				got = append(got, text(x))
			}
			if want := m.from(slot, most); !slices.Equal(got, want) {
				t.Fatalf("From(%d, %d): %d commands, want %d", slot, most, len(got), len(want))
			}
		}
	}
}

// dice is numbers that hang on the seed alone.
type dice uint32

func (d *dice) below(n int) int {
	*d = *d*1664525 + 1013904223
	return int(*d>>8) % n
}

// P13.1, P13.2: in any script a chain answers as its definition does.
func TestScripts(t *testing.T) {
	for seed := range 150 {
		d, c, m := dice(seed), chain.New(), model{}
		last := 3 + seed%10
		for range 30 {
			slot, x := d.below(last+2)-1, cmd(d.below(3))
			is(t, fmt.Sprintf("Learn(%d)", slot), c.Learn(slot, x), m.learn(slot, x))
			m.check(t, c, last+1)
		}
	}
}

// orders is all orders of some numbers.
func orders(l []int, tell func(l []int)) {
	if len(l) == 0 {
		tell(nil)
	}
	for i, first := range l {
		rest := slices.Delete(slices.Clone(l), i, i+1)
		orders(rest, func(l []int) { tell(append([]int{first}, l...)) })
	}
}

// P13.3: slots in every order, with and without gaps: at each time a chain
// tells the same as one that learned them from the least to the greatest.
func TestOrders(t *testing.T) {
	for _, slots := range [][]int{{1, 2, 3, 4, 5}, {1, 2, 3, 5, 6}, {2, 3, 5, 7}, {1, 3, 4, most - 1, most}} {
		orders(slots, func(l []int) {
			c := chain.New()
			for i, slot := range l {
				is(t, "Learn", c.Learn(slot, cmd(slot%1000)), api.OK)
				same(t, c, learned(t, slices.Sorted(slices.Values(l[:i+1]))...), slots)
			}
		})
	}
}

// P13.3: a command that clashes does so in every order of the other slots.
func TestOrdersWithClash(t *testing.T) {
	orders([]int{1, 2, 3, 4}, func(l []int) {
		c := chain.New()
		for i, slot := range l {
			is(t, "Learn", c.Learn(slot, cmd(slot)), api.OK)
			for _, before := range l[:i+1] {
				is(t, "Learn of the same", c.Learn(before, cmd(before)), api.OK)
				is(t, "Learn of another one", c.Learn(before, cmd(9)), api.ErrClash)
			}
		}
		same(t, c, learned(t, 1, 2, 3, 4), l)
	})
}

// same has two chains tell the same.
func same(t *testing.T, a, b *chain.Chain, slots []int) {
	t.Helper()
	next(t, a, b.Next())
	for _, s := range slots {
		for _, slot := range []int{s - 1, s, s + 1} {
			x, ok := b.Get(slot)
			if y, is := a.Get(slot); is != ok || text(y) != text(x) {
				t.Fatalf("Get(%d): %s, %v, want %s, %v", slot, text(y), is, text(x), ok)
			}
			for _, n := range []int{0, 1, 9} {
				if l, want := a.From(slot, n), b.From(slot, n); fmt.Sprint(l) != fmt.Sprint(want) {
					t.Fatalf("From(%d, %d): %v, want %v", slot, n, l, want)
				}
			}
		}
	}
}
