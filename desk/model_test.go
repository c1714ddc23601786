package desk_test

import (
	"encoding/hex"
	"regexp"
	"strconv"
	"strings"
	"testing"

	"amphora/api"
	"amphora/desk"
)

// dice is numbers that look thrown, the same ones at each run.
type dice uint32

func (d *dice) roll(n int) int {
	*d = *d*1664525 + 1013904223
	return int(uint32(*d) >> 8 % uint32(n))
}

// of is one of some.
func of[T any](d *dice, l ...T) T { return l[d.roll(len(l))] }

// number is one that a line may have.
func (d *dice) number() int {
	return of(d, 0, 1, -1, d.roll(10), d.roll(1000), -d.roll(1000), 999999999, -999999999)
}

// list is some of them.
func (d *dice) list(least int) []int {
	var l []int
	for range least + d.roll(5) {
		l = append(l, d.number())
	}
	return l
}

// step is one that a line has.
func (d *dice) step() api.Step {
	x := of(d, lines()...)
	s := x.step
	for _, name := range strings.Split(x.fields, " ") {
		n := d.number()
		switch name {
		case "Node":
			s.Node = n
		case "N":
			s.N = n
		case "Torn":
			s.Torn = n
		case "Bytes":
			s.Bytes = n
		case "Keep":
			s.Keep = d.list(0)
		case "Ask.Key":
			s.Ask.Key = of(d, keys()[:30]...)
		case "Ask.Bytes":
			s.Ask.Bytes = []byte(strings.Repeat(string(rune(d.roll(128))), d.roll(9)))
			if len(s.Ask.Bytes) == 0 {
				s.Ask.Bytes = nil
			}
		case "Cmd.Key":
			s.Cmd.Key = of(d, keys()[:30]...)
		case "Cmd.Index":
			s.Cmd.Index = n
		case "Cmd.Node":
			s.Cmd.Node = n
		case "Cmd.Code.K":
			s.Cmd.Code.K = n
		case "Cmd.Code.M":
			s.Cmd.Code.M = n
		case "Cmd.Nodes":
			s.Cmd.Nodes = d.list(1)
		default:
			panic(name)
		}
	}
	return s
}

// pattern is a kind of line by the section 'Lines'.
type pattern struct {
	form *regexp.Regexp
	step func(w []string) api.Step
}

// patterns has the document's table.
func patterns() []pattern {
	n := func(word string) int {
		x, _ := strconv.Atoi(word)
		return x
	}
	l := func(words string) []int {
		var l []int
		for _, w := range strings.Fields(words) {
			l = append(l, n(w))
		}
		return l
	}
	call := func(kind int) func(w []string) api.Step {
		return func(w []string) api.Step {
			s := api.Step{Kind: api.StepAsk, Node: n(w[1]), Ask: api.Ask{Kind: kind, Key: w[2]}}
			if len(w) > 3 && w[3] != "." {
				s.Ask.Bytes, _ = hex.DecodeString(w[3])
			}
			return s
		}
	}
	command := func(kind int, rest func(w []string) api.Cmd) func(w []string) api.Step {
		return func(w []string) api.Step {
			s := api.Step{Kind: api.StepAdmin, Node: n(w[1]), Cmd: rest(w)}
			s.Cmd.Kind = kind
			return s
		}
	}
	member := func(w []string) api.Cmd { return api.Cmd{Node: n(w[2])} }
	packet := func(kind int) func(w []string) api.Step {
		return func(w []string) api.Step { return api.Step{Kind: kind, N: n(w[1])} }
	}
	node := func(kind int) func(w []string) api.Step {
		return func(w []string) api.Step { return api.Step{Kind: kind, Node: n(w[1])} }
	}
	var all []pattern
	for _, x := range []struct {
		form string
		step func(w []string) api.Step
	}{
		{"put N KEY BYTES", call(api.AskPut)},
		{"get N KEY", call(api.AskGet)},
		{"delete N KEY", call(api.AskDelete)},
		{"move N KEY N N", command(api.CmdMove, func(w []string) api.Cmd { return api.Cmd{Key: w[2], Index: n(w[3]), Node: n(w[4])} })},
		{"recode N KEY N N", command(api.CmdRecode, func(w []string) api.Cmd {
			return api.Cmd{Key: w[2], Code: api.Code{K: n(w[3]), M: n(w[4])}}
		})},
		{"admit N N", command(api.CmdAdmit, member)},
		{"retire N N", command(api.CmdRetire, member)},
		{"fail N N", command(api.CmdFail, member)},
		{"voters N N ..", command(api.CmdVoters, func(w []string) api.Cmd { return api.Cmd{Nodes: l(w[2] + w[3])} })},
		{"width N N N", command(api.CmdWidth, func(w []string) api.Cmd { return api.Cmd{Code: api.Code{K: n(w[2]), M: n(w[3])}} })},
		{"deliver N", packet(api.StepDeliver)},
		{"lose N", packet(api.StepLose)},
		{"twice N", packet(api.StepTwice)},
		{"settle N", packet(api.StepSettle)},
		{"tick N", node(api.StepTick)},
		{"start N", node(api.StepStart)},
		{"dead N", node(api.StepFail)},
		{"crash N N N ..", func(w []string) api.Step {
			return api.Step{Kind: api.StepCrash, Node: n(w[1]), Torn: n(w[2]), Bytes: n(w[3]), Keep: l(w[4])}
		}},
	} {
		all = append(all, pattern{compiled(x.form), x.step})
	}
	return all
}

// compiled is the expression of a form.
func compiled(form string) *regexp.Regexp {
	const number = `(?:0|-?[1-9][0-9]{0,8})`
	words := map[string]string{
		"N": ` +(` + number + `)`, "KEY": ` +([^ ]+)`, "BYTES": ` +(\.|(?:[0-9a-f][0-9a-f])+)`, "..": `((?: +` + number + `)*)`,
	}
	text := ""
	for _, word := range strings.Split(form, " ") {
		if expression, ok := words[word]; ok {
			word = expression
		}
		text += word
	}
	return regexp.MustCompile(`^ *` + text + ` *$`)
}

// byWords is Parse by the chapter's words.
func byWords(script string, all []pattern) (size api.Setup, steps []api.Step, fault error) {
	if len(script) > api.MaxText {
		return api.Setup{}, nil, api.Fault{At: 1, Why: api.ErrFull}
	}
	first := compiled("cluster N N N N N")
	sized := false
	for i, line := range strings.Split(script, "\n") {
		if strings.Trim(line, " ") == "" {
			continue
		}
		if !sized {
			w := first.FindStringSubmatch(line)
			if w == nil {
				return api.Setup{}, nil, api.Fault{At: i + 1, Why: api.ErrScript}
			}
			for k, field := range []*int{&size.Nodes, &size.Voters, &size.Sectors, &size.Code.K, &size.Code.M} {
				*field, _ = strconv.Atoi(w[k+1])
			}
			sized = true
			continue
		}
		why := api.ErrScript
		for _, p := range all {
			if w := p.form.FindStringSubmatch(line); w != nil && len(steps) < api.MaxSteps {
				steps = append(steps, p.step(w))
				why = api.OK
			} else if w != nil {
				why = api.ErrFull
			}
		}
		if why != api.OK {
			return api.Setup{}, nil, api.Fault{At: i + 1, Why: why}
		}
	}
	if !sized {
		return api.Setup{}, nil, api.Fault{At: 1, Why: api.ErrScript}
	}
	return size, steps, nil
}

// script is a text, with some signs turned, and more of them if it is spoilt.
func (d *dice) script(spoilt int) string {
	text := of(d, "", "\n", " \n", "  ") + of(d, head, head, head, "", "cluster 1 -2 3 04 5\n", "cluster 9 8 7 6 5\n")
	for range d.roll(12) {
		line, _ := desk.Print(d.step())
		text += of(d, "", "", " ", "  ") + strings.ReplaceAll(line, " ", of(d, " ", " ", "  ")) + of(d, "\n", "\n", " \n", "\n\n", " \n \n")
	}
	signs := []byte(" \n\t\r.-+0123456789abcdefgptx\x00\xffA ")
	for range spoilt {
		b := []byte(text + "x")
		i := d.roll(len(b))
		switch d.roll(3) {
		case 0:
			b[i] = of(d, signs...)
		case 1:
			b = append(b[:i], b[i+1:]...)
		case 2:
			b = append(b[:i], append([]byte{of(d, signs...)}, b[i:]...)...)
		}
		text = strings.TrimSuffix(string(b), "x")
	}
	return text
}

// P24.1, over many texts.
func TestModel(t *testing.T) {
	all := patterns()
	right, wrong := 0, map[int]int{}
	for seed := range 20000 {
		d := dice(seed)
		script := d.script(seed % 4)
		size, steps, fault := byWords(script, all)
		if fault != nil {
			faults(t, script, fault.(api.Fault).At, fault.(api.Fault).Why)
			wrong[min(fault.(api.Fault).At, 9)]++
			continue
		}
		right++
		gotSize, got, err := desk.Parse(script)
		if err != nil || gotSize != size || !same(got, steps) {
			t.Fatalf("%q: %v, %+v, %v, not %+v", script, gotSize, got, err, steps)
		}
	}
	if right < 3000 || len(wrong) < 9 || wrong[9] < 500 {
		t.Fatalf("%d were right, and %v wrong: too few to tell", right, wrong)
	}
}
