package epoch_test

import (
	"math"
	"slices"
	"testing"

	"amphora/api"
	"amphora/epoch"
)

// script is a state's beginning, and what was applied to it.
type script struct {
	setup api.Setup
	cmds  []api.Cmd
}

// of is a script of six nodes, all of which vote, with two blobs at first.
func of(cmds ...api.Cmd) script {
	first := []api.Cmd{put(16, "a", code(1, 1), 0, 1), put(17, "b", code(1, 1), 0, 1)}
	return script{api.Setup{Nodes: 6, Voters: 6, Code: code(1, 0)}, append(first, cmds...)}
}

// from is a script that begins otherwise.
func from(nodes, voters int, c api.Code, cmds ...api.Cmd) script {
	return script{api.Setup{Nodes: nodes, Voters: voters, Code: c}, cmds}
}

// run is what a script makes: no command of it is refused.
func (x script) run(t *testing.T) *epoch.State {
	t.Helper()
	s, e := epoch.New(x.setup)
	if e != api.OK {
		t.Fatalf("New of %+v: error %d", x.setup, e)
	}
	for _, c := range x.cmds {
		if o := apply(t, s, c); o.Kind != api.OutDone {
			t.Fatalf("%s: outcome %d", text(c), o.Kind)
		}
	}
	return s
}

// nop is a command that does nothing, with a number.
func nop(id int) api.Cmd { return api.Cmd{ID: id} }

// P15.3: states that differ in one thing alone.
func TestNotSame(t *testing.T) {
	small := code(1, 0)
	for name, x := range map[string][2]script{
		"nodes":               {from(3, 3, small, width(small)), from(4, 3, small, retire(3))},
		"slot":                {of(nop(0)), of()},
		"epoch":               {of(nop(0)), of(width(small))},
		"members":             {of(retire(4)), of(retire(5))},
		"a member":            {of(retire(4)), of(width(small))},
		"failed":              {of(retire(4), retire(5), fail(4)), of(retire(4), retire(5), fail(5))},
		"failed or not":       {of(retire(4)), of(fail(4))},
		"first voters":        {from(3, 2, small), from(3, 3, small)},
		"voters":              {of(voters(0, 1)), of(voters(0, 2))},
		"order of voters":     {of(voters(0, 1)), of(voters(1, 0))},
		"fewer voters":        {of(voters(0, 1)), of(voters(0))},
		"slots of voters":     {of(voters(0), width(small)), of(width(small), voters(0))},
		"earlier voters":      {of(voters(0), voters(2)), of(voters(1), voters(2))},
		"first code":          {from(3, 3, small), from(3, 3, code(2, 1))},
		"K":                   {of(width(code(2, 1))), of(width(code(3, 1)))},
		"M":                   {of(width(code(2, 1))), of(width(code(2, 2)))},
		"keys":                {of(put(18, "c", small, 2)), of(put(18, "d", small, 2))},
		"a key":               {of(put(18, "c", small, 2)), of(nop(18))},
		"numbers of blobs":    {of(put(18, "c", small, 2), put(19, "d", small, 2)), of(put(19, "c", small, 2), put(18, "d", small, 2))},
		"Size":                {of(sized(put(18, "c", small, 2), 5)), of(sized(put(18, "c", small, 2), 6))},
		"Sum":                 {of(with(put(18, "c", small, 2), func(c *api.Cmd) { c.Sum = 1 })), of(put(18, "c", small, 2))},
		"Code":                {of(put(18, "c", code(1, 1), 2, 3)), of(put(18, "c", code(2, 0), 2, 3))},
		"Nodes":               {of(put(18, "c", code(1, 1), 2, 3)), of(put(18, "c", code(1, 1), 2, 4))},
		"order of Nodes":      {of(put(18, "c", code(1, 1), 2, 3)), of(put(18, "c", code(1, 1), 3, 2))},
		"keys that are gone":  {of(put(18, "c", small, 2), remove("c")), of(put(18, "d", small, 2), remove("d"))},
		"a key that is gone":  {of(put(18, "c", small, 2), remove("c")), of(nop(18), nop(0))},
		"gone or not":         {of(remove("a")), of(nop(0))},
		"a move":              {of(move(16, 0, 2)), of(nop(0))},
		"node of a move":      {of(move(16, 0, 2)), of(move(16, 0, 3))},
		"index of a move":     {of(move(16, 0, 2)), of(move(16, 1, 2))},
		"blob of a move":      {of(move(16, 0, 2)), of(move(17, 0, 2))},
		"order of moves":      {of(move(16, 0, 2), move(17, 0, 2)), of(move(17, 0, 2), move(16, 0, 2))},
		"a recode":            {of(recode(40, 16, small, 2)), of(nop(40))},
		"Other of a recode":   {of(recode(40, 16, small, 2), nop(41)), of(recode(41, 16, small, 2), nop(40))},
		"Blob of a recode":    {of(recode(40, 16, small, 2)), of(recode(40, 17, small, 2))},
		"Code of a recode":    {of(recode(40, 16, code(1, 1), 2, 3)), of(recode(40, 16, code(2, 0), 2, 3))},
		"Nodes of a recode":   {of(recode(40, 16, code(1, 1), 2, 3)), of(recode(40, 16, code(1, 1), 3, 2))},
		"order of recodes":    {of(recode(40, 16, small, 2), recode(41, 17, small, 2)), of(recode(41, 17, small, 2), recode(40, 16, small, 2))},
		"a number":            {of(nop(5)), of(nop(0))},
		"numbers":             {of(nop(5)), of(nop(6))},
		"nodes that it had":   {of(move(16, 0, 2), retire(2), admit(2)), of(nop(0), retire(2), admit(2))},
		"which blob had them": {of(move(16, 0, 2), retire(2), admit(2)), of(move(17, 0, 2), retire(2), admit(2))},
		"had behind a recast": {of(recode(40, 16, small, 2), recast(16, 40), move(40, 0, 3), change(40, 0, 3)),
			of(recode(40, 16, small, 3), recast(16, 40), width(small), nop(0))},
	} {
		a, b := x[0].run(t), x[1].run(t)
		if a.Same(b) || b.Same(a) {
			t.Errorf("%s: states that differ are the same", name)
		}
		for _, s := range []*epoch.State{a, b} {
			if c := s.Copy(); !s.Same(s) || !s.Same(c) || !c.Same(s) {
				t.Errorf("%s: a state, or a copy, is not the same as it", name)
			}
		}
	}
}

// P15.3: what no call tells differs too: nothing but the behaviour tells it.
func TestNotSameUntold(t *testing.T) {
	for name, x := range map[string]struct {
		a, b script
		cmd  api.Cmd
	}{
		"nodes": {from(3, 3, code(1, 0), width(code(1, 0))), from(4, 3, code(1, 0), retire(3)), admit(3)},
		"gone":  {of(put(18, "c", code(1, 0), 2), remove("c")), of(nop(18), nop(0)), put(19, "c", code(1, 0), 2)},
		"IDs":   {of(nop(5)), of(nop(6)), nop(5)},
		"had":   {of(move(16, 0, 2), retire(2), admit(2)), of(nop(0), retire(2), admit(2)), move(16, 1, 2)},
	} {
		a, b := x.a.run(t), x.b.run(t)
		if told(a) != told(b) || a.Slot() != b.Slot() {
			t.Fatalf("%s: the states tell what differs:\n%s\n%s", name, told(a), told(b))
		}
		if a.Same(b) {
			t.Errorf("%s: states that differ are the same", name)
		}
		if apply(t, a, x.cmd).Kind == apply(t, b, x.cmd).Kind {
			t.Errorf("%s: states that differ do the same", name)
		}
	}
}

// P15.3: states that came to be the same by other commands.
func TestSameByOtherCommands(t *testing.T) {
	small := code(1, 0)
	for name, x := range map[string][2]script{
		"order of puts":     {of(put(18, "c", small, 2), put(19, "d", small, 3)), of(put(19, "d", small, 3), put(18, "c", small, 2))},
		"numbers below 1":   {of(nop(0), nop(-5), nop(math.MinInt)), of(nop(0), nop(0), nop(0))},
		"a node that fails": {of(retire(5), fail(5)), of(fail(5), width(small))},
		"a get":             {of(get("a")), of(nop(0))},
		"blobs that are gone": {of(put(18, "c", small, 2), put(19, "d", small, 2), remove("c"), remove("d")),
			of(put(19, "c", small, 2), put(18, "d", small, 2), remove("c"), remove("d"))},
		"jobs that are gone": {of(move(16, 0, 2), remove("a"), move(17, 0, 2), nop(0)), of(remove("a"), nop(0), nop(0), move(17, 0, 2))},
		"a recode gone":      {of(recode(40, 16, small, 2), remove("a"), recode(41, 17, small, 2)), of(nop(40), remove("a"), recode(41, 17, small, 2))},
		"sectors":            {script{api.Setup{Nodes: 3, Voters: 1, Code: small, Sectors: 64}, nil}, from(3, 1, small)},
		"fields not asked":   {of(with(move(16, 0, 2), func(c *api.Cmd) { c.Key, c.Size, c.Nodes = "x", -1, []int{7} })), of(move(16, 0, 2))},
	} {
		a, b := x[0].run(t), x[1].run(t)
		if !a.Same(b) || !b.Same(a) {
			t.Errorf("%s: states that do not differ are not the same:\n%s\n%s", name, told(a), told(b))
		}
	}
}

// P15.3: a copy goes its own way, and so does what it was made of.
func TestCopy(t *testing.T) {
	first := []api.Cmd{
		move(16, 0, 2), recode(40, 17, code(1, 1), 2, 3), voters(1, 2), voters(3), put(18, "c", code(1, 0), 5), put(19, "d", code(1, 0), 5), remove("d"), retire(4),
	}
	steps := []api.Cmd{
		change(16, 0, 2), recast(17, 40), move(18, 0, 0), put(20, "e", code(1, 0), 5), remove("c"), remove("a"), move(16, 1, 5), recode(41, 18, code(1, 0), 0),
		admit(4), retire(5), fail(5), fail(3), voters(0), width(code(2, 2)), nop(0), nop(77), {Kind: 99},
	}
	for _, step := range steps {
		s := of(first...).run(t)
		was, slot := told(s), s.Slot()
		c, other := s.Copy(), s.Copy()
		apply(t, c, step)
		if told(s) != was || s.Slot() != slot || told(other) != was || s.Same(c) || !s.Same(other) {
			t.Fatalf("%s of a copy changes what it is a copy of", text(step))
		}
		is, slot := told(c), c.Slot()
		for _, next := range steps {
			apply(t, s, next)
		}
		if told(c) != is || c.Slot() != slot || told(other) != was {
			t.Fatalf("behind %s a copy changes by itself", text(step))
		}
		for _, next := range append(slices.Clone(first), steps...) {
			apply(t, c, next)
		}
		if told(other) != was {
			t.Fatalf("behind %s a copy changes by another one", text(step))
		}
		apply(t, other, step)
		if told(other) != is {
			t.Fatalf("%s does something else to another copy:\n%s\n%s", text(step), told(other), is)
		}
	}
}
