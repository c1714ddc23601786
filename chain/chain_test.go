package chain_test

import (
	"fmt"
	"math"
	"reflect"
	"slices"
	"strings"
	"testing"

	"amphora/api"
	"amphora/chain"
)

// most is the greatest slot.
const most = api.MaxNumber

// cmd is a command of which each field hangs on the seed.
func cmd(seed int) api.Cmd {
	c := api.Cmd{
		ID: seed, Kind: seed + 2, Key: fmt.Sprint("key", seed), Blob: seed + 3, Other: seed + 4, Index: seed + 5,
		Node: seed + 6, Size: seed + 7, Sum: uint32(seed + 8), Code: api.Code{K: seed + 9, M: seed + 10},
	}
	for i := range 1 + seed%4 {
		c.Nodes = append(c.Nodes, seed+20+i)
	}
	return c
}

// text is all of a command; lists that are nil or empty are alike in it.
func text(c api.Cmd) string { return fmt.Sprintf("%+v", c) }

// is has a call answer the error.
func is(t *testing.T, name string, e, want api.Errno) {
	t.Helper()
	if e != want {
		t.Fatalf("%s: error %d, want %d", name, e, want)
	}
}

// learned is a chain that learned cmd(slot % 1000) of each slot, in that order.
func learned(t *testing.T, slots ...int) *chain.Chain {
	t.Helper()
	c := chain.New()
	for _, slot := range slots {
		is(t, fmt.Sprintf("Learn(%d)", slot), c.Learn(slot, cmd(slot%1000)), api.OK)
	}
	return c
}

// there has slots have the commands that learned gives them.
func there(t *testing.T, c *chain.Chain, slots ...int) {
	t.Helper()
	for _, slot := range slots {
		has(t, c, slot, cmd(slot%1000))
	}
}

// has has a slot have a command.
func has(t *testing.T, c *chain.Chain, slot int, want api.Cmd) {
	t.Helper()
	if x, ok := c.Get(slot); !ok || text(x) != text(want) {
		t.Fatalf("Get(%d): %s, %v, want %s", slot, text(x), ok, text(want))
	}
}

// none has slots have no command.
func none(t *testing.T, c *chain.Chain, slots ...int) {
	t.Helper()
	for _, slot := range slots {
		if x, ok := c.Get(slot); ok || text(x) != text(api.Cmd{}) {
			t.Fatalf("Get(%d): %s, %v", slot, text(x), ok)
		}
	}
}

// next has Next answer this.
func next(t *testing.T, c *chain.Chain, want int) {
	t.Helper()
	if got := c.Next(); got != want {
		t.Fatalf("Next: %d, want %d", got, want)
	}
}

// from has From answer the commands that learned gives these slots.
func from(t *testing.T, c *chain.Chain, slot, most int, want ...int) {
	t.Helper()
	var got, texts []string
	for _, x := range c.From(slot, most) {
		got = append(got, text(x))
	}
	for _, n := range want {
		texts = append(texts, text(cmd(n%1000)))
	}
	if !slices.Equal(got, texts) {
		t.Fatalf("From(%d, %d): %d commands %v, want those of %v", slot, most, len(got), got, want)
	}
}

// P13.2: the chapter's example.
func TestExample(t *testing.T) {
	c := chain.New()
	is(t, "Learn(2, b)", c.Learn(2, cmd(22)), api.OK)
	is(t, "Learn(1, a)", c.Learn(1, cmd(11)), api.OK)
	next(t, c, 3)
	has(t, c, 1, cmd(11))
	has(t, c, 2, cmd(22))
}

// P13.1, P13.2: a chain without anything.
func TestNew(t *testing.T) {
	c := chain.New()
	next(t, c, 1)
	none(t, c, math.MinInt, -1, 0, 1, 2, most, most+1, math.MaxInt)
	for _, slot := range []int{math.MinInt, -1, 0, 1, 2, most, most + 1, math.MaxInt} {
		for _, n := range []int{math.MinInt, -1, 0, 1, 2, math.MaxInt} {
			from(t, c, slot, n)
		}
	}
}

// P13.1, P13.2: one chain has nothing of another one.
func TestApart(t *testing.T) {
	one, other := learned(t, 1, 2), chain.New()
	next(t, other, 1)
	none(t, other, 1, 2)
	is(t, "Learn", other.Learn(1, cmd(7)), api.OK)
	there(t, one, 1, 2)
	next(t, one, 3)
	next(t, other, 2)
}

// P13.1: slots of 1 to MaxNumber, and no others.
func TestSlots(t *testing.T) {
	right := []int{1, 2, 3, 255, 256, 1 << 31, 1 << 32, most - 1, most}
	wrong := []int{0, -1, -2, -most, math.MinInt, most + 1, most + 2, math.MaxInt}
	c := chain.New()
	for _, slot := range slices.Concat(wrong, right, wrong) {
		want := api.OK
		if slices.Contains(wrong, slot) {
			want = api.ErrArg
		}
		is(t, fmt.Sprintf("Learn(%d)", slot), c.Learn(slot, cmd((slot%1000+1000)%1000)), want)
	}
	there(t, c, right...)
	none(t, c, wrong...)
	none(t, c, 4, 254, most-2)
	next(t, c, 4)
}

// P13.1: a slot that is none is told as such, whatever the command is, and
// nothing has changed.
func TestWrongSlots(t *testing.T) {
	c := learned(t, 1, 2, 4)
	for _, slot := range []int{0, -1, math.MinInt, most + 1, math.MaxInt} {
		for _, x := range []api.Cmd{{}, cmd(1), cmd(3)} {
			is(t, fmt.Sprintf("Learn(%d)", slot), c.Learn(slot, x), api.ErrArg)
		}
		none(t, c, slot)
	}
	there(t, c, 1, 2, 4)
	next(t, c, 3)
	from(t, c, 1, 9, 1, 2)
}

// other is a command that differs from another one in a single field.
type other struct {
	field string
	cmd   api.Cmd
}

// others is what differs from a command in a single field, for each field.
func others(c api.Cmd) []other {
	var l []other
	add := func(field string, change func(x *api.Cmd)) {
		x := c
		x.Nodes = slices.Clone(c.Nodes)
		change(&x)
		l = append(l, other{field, x})
	}
	for _, by := range []int{1, -1, 1 << 32, math.MinInt} {
		add("ID", func(x *api.Cmd) { x.ID += by })
		add("Kind", func(x *api.Cmd) { x.Kind += by })
		add("Blob", func(x *api.Cmd) { x.Blob += by })
		add("Other", func(x *api.Cmd) { x.Other += by })
		add("Index", func(x *api.Cmd) { x.Index += by })
		add("Node", func(x *api.Cmd) { x.Node += by })
		add("Size", func(x *api.Cmd) { x.Size += by })
		add("Code", func(x *api.Cmd) { x.Code.K += by })
		add("Code", func(x *api.Cmd) { x.Code.M += by })
		for i := range c.Nodes {
			add("Nodes", func(x *api.Cmd) { x.Nodes[i] += by })
		}
	}
	for _, by := range []uint32{1, 1 << 31, math.MaxUint32} {
		add("Sum", func(x *api.Cmd) { x.Sum += by })
	}
	add("Key", func(x *api.Cmd) { x.Key += "a" })
	add("Key", func(x *api.Cmd) { x.Key += "\x00" })
	add("Key", func(x *api.Cmd) { x.Key = strings.ToUpper(x.Key) + "\xff" })
	add("Nodes", func(x *api.Cmd) { x.Nodes = append(x.Nodes, 0) })
	add("Nodes", func(x *api.Cmd) { x.Nodes = append([]int{0}, x.Nodes...) })
	if len(c.Nodes) > 0 {
		add("Nodes", func(x *api.Cmd) { x.Nodes = nil })
		add("Nodes", func(x *api.Cmd) { x.Nodes = []int{} })
		add("Nodes", func(x *api.Cmd) { x.Nodes = x.Nodes[:len(x.Nodes)-1] })
		add("Nodes", func(x *api.Cmd) { x.Nodes = x.Nodes[1:] })
	}
	if len(c.Nodes) > 1 && c.Nodes[0] != c.Nodes[1] {
		add("Nodes", func(x *api.Cmd) { slices.Reverse(x.Nodes) })
	}
	if c.Key != "" {
		add("Key", func(x *api.Cmd) { x.Key = "" })
		add("Key", func(x *api.Cmd) { x.Key = x.Key[1:] })
	}
	return l
}

// P13.1: a command that is there already, and one that differs from it in a
// single field, for each field of a command.
func TestClash(t *testing.T) {
	var fields []string
	for _, base := range []api.Cmd{cmd(3), cmd(0), {}, {Nodes: []int{0}}, {Nodes: []int{0, 0}}} {
		c := chain.New()
		is(t, "Learn", c.Learn(1, base), api.OK)
		for _, o := range others(base) {
			is(t, "Learn of the same", c.Learn(1, base), api.OK)
			if e := c.Learn(1, o.cmd); e != api.ErrClash {
				t.Fatalf("%s is chosen, and %s, with another %s, answers error %d", text(base), text(o.cmd), o.field, e)
			}
			has(t, c, 1, base)
			next(t, c, 2)
			fields = append(fields, o.field)
		}
	}
	for i := range reflect.TypeFor[api.Cmd]().NumField() {
		if name := reflect.TypeFor[api.Cmd]().Field(i).Name; !slices.Contains(fields, name) {
			t.Errorf("nothing differs in %s", name)
		}
	}
}

// P13.1: so does each of them, if it is the one that is chosen.
func TestClashOtherWay(t *testing.T) {
	base := cmd(3)
	for _, o := range others(base) {
		c := chain.New()
		is(t, "Learn", c.Learn(9, o.cmd), api.OK)
		is(t, "Learn of "+o.field, c.Learn(9, base), api.ErrClash)
		is(t, "Learn of the same", c.Learn(9, o.cmd), api.OK)
		has(t, c, 9, o.cmd)
	}
}

// P13.1: lists that are nil and that are empty are one.
func TestNilAndEmpty(t *testing.T) {
	kinds := [][]int{nil, {}, make([]int, 0, 3), []int{1, 2}[:0]}
	for _, one := range kinds {
		for _, other := range kinds {
			a, b := cmd(5), cmd(5)
			a.Nodes, b.Nodes = one, other
			c := chain.New()
			is(t, "Learn", c.Learn(1, a), api.OK)
			is(t, "Learn of the same", c.Learn(1, b), api.OK)
			is(t, "Learn of a list of 0", c.Learn(1, api.Cmd{Nodes: []int{0}}), api.ErrClash)
			has(t, c, 1, a)
			has(t, c, 1, b)
		}
	}
}

// P13.1, P13.2: a command of noughts is one like all others.
func TestNoughts(t *testing.T) {
	c := chain.New()
	is(t, "Learn", c.Learn(1, api.Cmd{}), api.OK)
	has(t, c, 1, api.Cmd{})
	next(t, c, 2)
	if l := c.From(1, 9); len(l) != 1 || text(l[0]) != text(api.Cmd{}) {
		t.Fatalf("From: %v", l)
	}
	is(t, "Learn of another one", c.Learn(1, cmd(1)), api.ErrClash)
	is(t, "Learn of the same", c.Learn(1, api.Cmd{}), api.OK)
	has(t, c, 1, api.Cmd{})
}

// P13.1: any command can be chosen, one that may not go over the wire too, and
// one at several slots.
func TestAnyCommand(t *testing.T) {
	wild := api.Cmd{
		ID: math.MinInt, Kind: -1, Key: strings.Repeat("\xff\x00", 1000), Blob: math.MaxInt, Other: -7, Index: math.MinInt,
		Node: 99, Size: -1, Sum: math.MaxUint32, Code: api.Code{K: math.MaxInt, M: math.MinInt},
		Nodes: slices.Repeat([]int{math.MaxInt, -1}, 1000),
	}
	c := chain.New()
	for _, slot := range []int{1, 2, 4, most} {
		is(t, "Learn", c.Learn(slot, wild), api.OK)
		is(t, "Learn of the same", c.Learn(slot, wild), api.OK)
		has(t, c, slot, wild)
	}
	next(t, c, 3)
}

// P13.2
func TestNext(t *testing.T) {
	for _, x := range []struct {
		slots []int
		want  int
	}{
		{nil, 1},
		{[]int{1}, 2},
		{[]int{2}, 1},
		{[]int{2, 3, 4}, 1},
		{[]int{most}, 1},
		{[]int{most - 1, most}, 1},
		{[]int{1, 2, 3}, 4},
		{[]int{3, 2, 1}, 4},
		{[]int{2, 3, 1}, 4},
		{[]int{1, 3}, 2},
		{[]int{1, 2, 4, 5}, 3},
		{[]int{5, 4, 2, 1}, 3},
		{[]int{1, 2, 4, 5, 3}, 6},
		{[]int{1, 3, 5, 2}, 4},
		{[]int{1, 3, 5, 2, 4}, 6},
		{[]int{1, most}, 2},
		{[]int{1, 1, 1}, 2},
	} {
		c := learned(t, x.slots...)
		next(t, c, x.want)
		next(t, c, x.want)
	}
}

// P13.2
func TestFrom(t *testing.T) {
	c := learned(t, 1, 2, 3, 5, 6, 9, most-1, most)
	for _, x := range []struct {
		slot, most int
		want       []int
	}{
		{1, 3, []int{1, 2, 3}}, // just as many as there are
		{1, 4, []int{1, 2, 3}}, // of more
		{1, 9, []int{1, 2, 3}},
		{1, math.MaxInt, []int{1, 2, 3}},
		{1, 2, []int{1, 2}},
		{1, 1, []int{1}},
		{1, 0, nil},
		{1, -1, nil},
		{1, math.MinInt, nil},
		{0, 9, []int{1, 2, 3}}, // below 1 as 1
		{0, 1, []int{1}},
		{0, 2, []int{1, 2}},
		{0, 0, nil},
		{-1, 9, []int{1, 2, 3}},
		{-1, 1, []int{1}},
		{-1, 3, []int{1, 2, 3}},
		{-5, 2, []int{1, 2}},
		{math.MinInt, 2, []int{1, 2}},
		{math.MinInt, math.MaxInt, []int{1, 2, 3}},
		{math.MinInt, -1, nil},
		{2, 9, []int{2, 3}},
		{2, 2, []int{2, 3}},
		{2, 1, []int{2}},
		{3, 9, []int{3}},
		{3, 1, []int{3}},
		{3, 0, nil},
		{4, 9, nil}, // at a gap
		{4, 1, nil},
		{4, math.MaxInt, nil},
		{5, 9, []int{5, 6}}, // behind one
		{5, 1, []int{5}},
		{6, 9, []int{6}},
		{7, 9, nil},
		{8, 9, nil},
		{9, 9, []int{9}},
		{10, 9, nil},
		{most - 2, 9, nil},
		{most - 1, 9, []int{most - 1, most}},
		{most - 1, 1, []int{most - 1}},
		{most, 9, []int{most}},
		{most, math.MaxInt, []int{most}},
		{most + 1, 9, nil}, // behind the last one
		{math.MaxInt, 9, nil},
		{math.MaxInt, math.MaxInt, nil},
	} {
		from(t, c, x.slot, x.most, x.want...)
	}
}

// P13.1, P13.2: calls that only tell, and those that answer an error, change
// nothing.
func TestNothingHasChanged(t *testing.T) {
	c := learned(t, 1, 3)
	for _, slot := range []int{0, 1, 2, 3, 4, most} {
		c.Get(slot)
		c.From(slot, 3)
		c.Next()
	}
	for _, slot := range []int{1, 3} {
		is(t, "Learn of another one", c.Learn(slot, cmd(777)), api.ErrClash)
	}
	is(t, "Learn of slot 0", c.Learn(0, cmd(777)), api.ErrArg)
	there(t, c, 1, 3)
	none(t, c, 0, 2, 4, most)
	next(t, c, 2)
	is(t, "Learn of what was asked for", c.Learn(2, cmd(2)), api.OK)
	from(t, c, 1, 9, 1, 2, 3)
	next(t, c, 4)
}

// Chains that no call made.
func TestNil(t *testing.T) {
	for _, c := range []*chain.Chain{nil, {}} {
		for range 2 {
			is(t, "Learn", c.Learn(1, cmd(1)), api.ErrNil)
			is(t, "Learn", c.Learn(most, api.Cmd{}), api.ErrNil)
			none(t, c, -1, 0, 1, 2, most, math.MaxInt)
			next(t, c, 0)
			for _, slot := range []int{math.MinInt, 0, 1, most, math.MaxInt} {
				from(t, c, slot, 9)
				from(t, c, slot, 0)
				from(t, c, slot, math.MaxInt)
			}
		}
	}
}

// P13.2: many slots, learned from the last one to the first.
func TestMany(t *testing.T) {
	const count = 5000
	c := chain.New()
	for slot := count; slot >= 2; slot-- {
		is(t, "Learn", c.Learn(slot, api.Cmd{ID: slot}), api.OK)
		next(t, c, 1)
	}
	is(t, "Learn", c.Learn(1, api.Cmd{ID: 1}), api.OK)
	next(t, c, count+1)
	l := c.From(0, math.MaxInt)
	if len(l) != count {
		t.Fatalf("From: %d commands", len(l))
	}
	for i, x := range l {
		if x.ID != i+1 {
			t.Fatalf("From: command %d at slot %d", x.ID, i+1)
		}
	}
}
