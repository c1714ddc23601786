package desk_test

import (
	"math"
	"reflect"
	"slices"
	"strings"
	"testing"

	"amphora/api"
	"amphora/desk"
)

// prints has a step's line be a text, which is read back as the step.
func prints(t *testing.T, s api.Step, want string) {
	t.Helper()
	if got, e := desk.Print(s); e != api.OK || got != want {
		t.Fatalf("%+v: %.99q, %v, not %.99q", s, got, e, want)
	}
	if len(want)+len(head) <= api.MaxText {
		parses(t, head+want, s)
	}
}

// prints no line, as there is none.
func printsNone(t *testing.T, s api.Step) {
	t.Helper()
	if got, e := desk.Print(s); e != api.ErrArg || got != "" {
		t.Fatalf("%+v: %.99q, %v", s, got, e)
	}
}

// P24.1, P24.3: each kind of step.
func TestPrint(t *testing.T) {
	for _, x := range lines() {
		prints(t, x.step, x.text)
	}
	prints(t, ask(api.AskPut, "a"), "put 1 a .")
	prints(t, api.Step{Kind: api.StepCrash}, "crash 0 0 0")
	prints(t, api.Step{Kind: api.StepTick}, "tick 0")
	prints(t, api.Step{Kind: api.StepSettle}, "settle 0")
	prints(t, admin(api.Cmd{Kind: api.CmdWidth}), "width 1 0 0")
	prints(t, admin(api.Cmd{Kind: api.CmdVoters, Nodes: []int{3}}), "voters 1 3")
	prints(t, ask(api.AskPut, "a", []byte(strings.Repeat("\x9b", 30000))...), "put 1 a "+strings.Repeat("9b", 30000))
	if got, e := desk.Print(api.Step{Kind: api.StepCrash, Keep: []int{}, Ask: api.Ask{Bytes: []byte{}}, Cmd: api.Cmd{Nodes: []int{}}}); got != "crash 0 0 0" || e != api.OK {
		t.Fatalf("empty lists: %q, %v", got, e)
	}
	if got, e := desk.Print(api.Step{Kind: api.StepAsk, Ask: api.Ask{Kind: api.AskPut, Key: "a", Bytes: []byte{}}}); got != "put 0 a ." || e != api.OK {
		t.Fatalf("an empty list: %q, %v", got, e)
	}
}

// P24.1: kinds that are none.
func TestPrintKinds(t *testing.T) {
	printsNone(t, api.Step{})
	for kind := -2; kind < 14; kind++ {
		if kind < api.StepAsk || kind > api.StepSettle {
			printsNone(t, api.Step{Kind: kind})
			printsNone(t, api.Step{Kind: kind, Ask: api.Ask{Kind: api.AskGet, Key: "a"}})
			printsNone(t, api.Step{Kind: kind, Cmd: api.Cmd{Kind: api.CmdAdmit}})
		}
		if kind < api.AskPut || kind > api.AskDelete {
			printsNone(t, ask(kind, "a"))
			printsNone(t, ask(kind, "a", 1))
		}
		if kind <= api.CmdDelete || kind == api.CmdSwitch || kind == api.CmdRecast || kind > api.CmdWidth {
			printsNone(t, admin(api.Cmd{Kind: kind}))
			printsNone(t, admin(api.Cmd{Kind: kind, Key: "a"}))
			printsNone(t, admin(api.Cmd{Kind: kind, Nodes: []int{1}}))
		}
	}
	for _, kind := range []int{math.MinInt, math.MaxInt, 1000000000} {
		printsNone(t, api.Step{Kind: kind})
		printsNone(t, ask(kind, "a"))
		printsNone(t, admin(api.Cmd{Kind: kind}))
	}
	for _, x := range lines() {
		for kind := 1; kind < 13; kind++ {
			s := x.step
			if s.Kind != api.StepAsk {
				s.Ask.Kind = kind
				printsNone(t, s)
			}
			if s = x.step; s.Kind != api.StepAdmin {
				s.Cmd.Kind = kind
				printsNone(t, s)
			}
		}
	}
	printsNone(t, api.Step{Kind: api.StepAsk, Cmd: api.Cmd{Kind: api.CmdAdmit}})
	printsNone(t, api.Step{Kind: api.StepAdmin, Ask: api.Ask{Kind: api.AskGet, Key: "a"}})
}

// field is a field that is no kind; turned, if it is not empty and other than
// it was.
type field struct {
	name string
	turn func(s *api.Step)
}

func fields() []field {
	return []field{
		{"Node", func(s *api.Step) { s.Node += 5 }},
		{"N", func(s *api.Step) { s.N += 5 }},
		{"Torn", func(s *api.Step) { s.Torn += 5 }},
		{"Bytes", func(s *api.Step) { s.Bytes += 5 }},
		{"Keep", func(s *api.Step) { s.Keep = append(slices.Clone(s.Keep), 0) }},
		{"Ask.ID", func(s *api.Step) { s.Ask.ID += 5 }},
		{"Ask.Key", func(s *api.Step) { s.Ask.Key += "x" }},
		{"Ask.Bytes", func(s *api.Step) { s.Ask.Bytes = append(slices.Clone(s.Ask.Bytes), 0) }},
		{"Cmd.ID", func(s *api.Step) { s.Cmd.ID += 5 }},
		{"Cmd.Key", func(s *api.Step) { s.Cmd.Key += "x" }},
		{"Cmd.Blob", func(s *api.Step) { s.Cmd.Blob += 5 }},
		{"Cmd.Other", func(s *api.Step) { s.Cmd.Other += 5 }},
		{"Cmd.Index", func(s *api.Step) { s.Cmd.Index += 5 }},
		{"Cmd.Node", func(s *api.Step) { s.Cmd.Node += 5 }},
		{"Cmd.Size", func(s *api.Step) { s.Cmd.Size += 5 }},
		{"Cmd.Sum", func(s *api.Step) { s.Cmd.Sum += 5 }},
		{"Cmd.Code.K", func(s *api.Step) { s.Cmd.Code.K += 5 }},
		{"Cmd.Code.M", func(s *api.Step) { s.Cmd.Code.M += 5 }},
		{"Cmd.Nodes", func(s *api.Step) { s.Cmd.Nodes = append(slices.Clone(s.Cmd.Nodes), 0) }},
	}
}

// P24.1: each field that has no place in the line has to be empty; each that
// has one is told.
func TestPrintFields(t *testing.T) {
	for _, x := range lines() {
		has := strings.Split(x.fields, " ")
		for _, f := range fields() {
			s := x.step
			f.turn(&s)
			if !slices.Contains(has, f.name) {
				printsNone(t, s)
				continue
			}
			got, e := desk.Print(s)
			if e != api.OK || got == x.text {
				t.Fatalf("%s of %q: %q, %v", f.name, x.text, got, e)
			}
			prints(t, s, got)
		}
	}
	printsNone(t, admin(api.Cmd{Kind: api.CmdVoters}))
	printsNone(t, admin(api.Cmd{Kind: api.CmdVoters, Nodes: []int{}}))
}

// P24.1: keys that are no word.
func TestPrintKeys(t *testing.T) {
	with := func(key string) []api.Step {
		return []api.Step{
			ask(api.AskPut, key, 0x41), ask(api.AskPut, key), ask(api.AskGet, key), ask(api.AskDelete, key),
			admin(api.Cmd{Kind: api.CmdMove, Key: key, Index: 2, Node: 3}), admin(api.Cmd{Kind: api.CmdRecode, Key: key}),
		}
	}
	for _, key := range []string{
		"", " ", "  ", "a ", " a", "a b", "a  b", "\n", "a\n", "\na", "a\nb", "a 41", "a\nget 0 a", "a 1", "1 2", "\n\n", "ä ä", "ä\nä", "\xff ", "\xff\n", "\xe2\x20", "\xe2\x0a",
		strings.Repeat("k", 5000) + " ", "\t ", "\r\n", "a .", "a 2 3",
	} {
		for _, s := range with(key) {
			printsNone(t, s)
		}
	}
	for _, key := range keys() {
		for i, s := range with(key) {
			prints(t, s, []string{"put 1 " + key + " 41", "put 1 " + key + " .", "get 1 " + key, "delete 1 " + key, "move 1 " + key + " 2 3", "recode 1 " + key + " 0 0"}[i])
		}
	}
	prints(t, ask(api.AskGet, strings.Repeat("k", 50000)), "get 1 "+strings.Repeat("k", 50000))
}

// P24.1: numbers of ten digits and more, at each place for one.
func TestPrintNumbers(t *testing.T) {
	set := func(n int) []api.Step {
		code := func(k, m int) api.Code { return api.Code{K: k, M: m} }
		l := []api.Step{
			{Kind: api.StepCrash, Torn: n}, {Kind: api.StepCrash, Bytes: n}, {Kind: api.StepCrash, Keep: []int{n}}, {Kind: api.StepCrash, Keep: []int{1, n, 2}},
			admin(api.Cmd{Kind: api.CmdMove, Key: "a", Index: n}), admin(api.Cmd{Kind: api.CmdMove, Key: "a", Node: n}),
			admin(api.Cmd{Kind: api.CmdRecode, Key: "a", Code: code(n, 0)}), admin(api.Cmd{Kind: api.CmdRecode, Key: "a", Code: code(0, n)}),
			admin(api.Cmd{Kind: api.CmdWidth, Code: code(n, 0)}), admin(api.Cmd{Kind: api.CmdWidth, Code: code(0, n)}),
			admin(api.Cmd{Kind: api.CmdVoters, Nodes: []int{n}}), admin(api.Cmd{Kind: api.CmdVoters, Nodes: []int{0, n}}),
		}
		for _, kind := range []int{api.CmdAdmit, api.CmdRetire, api.CmdFail} {
			l = append(l, admin(api.Cmd{Kind: kind, Node: n}))
		}
		for _, x := range lines() {
			if x.step.Node != 0 {
				x.step.Node = n
			} else {
				x.step.N = n
			}
			l = append(l, x.step)
		}
		return l
	}
	for _, n := range []int{1000000000, -1000000000, 1<<31 - 1, -1 << 31, 1 << 32, 1<<32 + 5, math.MaxInt, math.MinInt} {
		for _, s := range set(n) {
			printsNone(t, s)
		}
	}
	for word, n := range isNumber() {
		for _, s := range set(n) {
			got, e := desk.Print(s)
			if e != api.OK || !slices.Contains(strings.Split(got, " ")[1:], word) {
				t.Fatalf("%s: %q, %v", word, got, e)
			}
			prints(t, s, got)
		}
	}
}

// P24.3: there and back, with many steps in one script.
func TestThereAndBack(t *testing.T) {
	for seed := range 300 {
		d := dice(seed)
		script, want := head, []api.Step(nil)
		for range d.roll(60) {
			s := d.step()
			text, e := desk.Print(s)
			if e != api.OK {
				t.Fatalf("%+v: %v", s, e)
			}
			script += text + "\n"
			want = append(want, s)
		}
		parses(t, script, want...)
		if _, got, _ := desk.Parse(script); len(got) > 0 {
			for i, s := range got {
				text, e := desk.Print(s)
				if e != api.OK || text != strings.Split(script, "\n")[i+1] || !reflect.DeepEqual(s, want[i]) {
					t.Fatalf("%+v: %q, %v", s, text, e)
				}
			}
		}
	}
}
