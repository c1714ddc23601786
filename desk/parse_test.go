package desk_test

import (
	"errors"
	"reflect"
	"strings"
	"testing"

	"amphora/api"
	"amphora/desk"
)

// head is a first line, and its size.
const head = "cluster 3 2 100 2 1\n"

func size() api.Setup {
	return api.Setup{Nodes: 3, Voters: 2, Sectors: 100, Code: api.Code{K: 2, M: 1}}
}

// parses has a script be the steps, behind the size of head.
func parses(t *testing.T, script string, steps ...api.Step) {
	t.Helper()
	gotSize, got, err := desk.Parse(script)
	if err != nil || gotSize != size() || len(got) != len(steps) || len(steps) > 0 && !reflect.DeepEqual(got, steps) {
		t.Fatalf("%.99q: %v, %+v, %v", script, gotSize, got, err)
	}
}

// numbers is all that an error may have.
func numbers() []api.Errno {
	return []api.Errno{
		api.OK, api.ErrArg, api.ErrNil, api.ErrFull, api.ErrSingular, api.ErrFew, api.ErrShort, api.ErrForm, api.ErrSum,
		api.ErrDead, api.ErrLog, api.ErrAbsent, api.ErrFenced, api.ErrThere, api.ErrPacket, api.ErrDrift, api.ErrClash,
		api.ErrSpare, api.ErrDown, api.ErrScript,
	}
}

// isFault has an error be a fault, as a value, with one number and its place.
func isFault(t *testing.T, script string, err error, at int, why api.Errno) {
	t.Helper()
	if err != error(api.Fault{At: at, Why: why}) {
		t.Fatalf("%.99q: %v, not %d at %d", script, err, why, at)
	}
	var f api.Fault
	if !errors.As(err, &f) || f.At != at || f.Why != why {
		t.Fatalf("%.99q: %v is no fault", script, err)
	}
	for _, e := range numbers() {
		if errors.Is(err, e) != (e == why) {
			t.Fatalf("%.99q: is it %d: %v", script, e, errors.Is(err, e))
		}
	}
}

// faults has a script have a fault, and nothing else.
func faults(t *testing.T, script string, at int, why api.Errno) {
	t.Helper()
	s, steps, err := desk.Parse(script)
	isFault(t, script, err, at, why)
	if s != (api.Setup{}) || len(steps) != 0 {
		t.Fatalf("%.99q: beside a fault %v, %v", script, s, steps)
	}
	lines, err := desk.Run(script)
	isFault(t, script, err, at, why)
	if len(lines) != 0 {
		t.Fatalf("%.99q: beside a fault %v", script, lines)
	}
}

// line is a kind of line: what its words are (a number, a key, bytes; in
// capitals as many as there are), its step, and which fields it has.
type line struct {
	text, words string
	step        api.Step
	fields      string
}

func ask(kind int, key string, b ...byte) api.Step {
	return api.Step{Kind: api.StepAsk, Node: 1, Ask: api.Ask{Kind: kind, Key: key, Bytes: b}}
}

func admin(c api.Cmd) api.Step { return api.Step{Kind: api.StepAdmin, Node: 1, Cmd: c} }

func lines() []line {
	code := api.Code{K: 4, M: 5}
	return []line{
		{"put 1 a 00ff", "nkb", ask(api.AskPut, "a", 0, 255), "Node Ask.Key Ask.Bytes"},
		{"get 1 a", "nk", ask(api.AskGet, "a"), "Node Ask.Key"},
		{"delete 1 a", "nk", ask(api.AskDelete, "a"), "Node Ask.Key"},
		{"move 1 a 2 3", "nknn", admin(api.Cmd{Kind: api.CmdMove, Key: "a", Index: 2, Node: 3}), "Node Cmd.Key Cmd.Index Cmd.Node"},
		{"recode 1 a 4 5", "nknn", admin(api.Cmd{Kind: api.CmdRecode, Key: "a", Code: code}), "Node Cmd.Key Cmd.Code.K Cmd.Code.M"},
		{"admit 1 2", "nn", admin(api.Cmd{Kind: api.CmdAdmit, Node: 2}), "Node Cmd.Node"},
		{"retire 1 2", "nn", admin(api.Cmd{Kind: api.CmdRetire, Node: 2}), "Node Cmd.Node"},
		{"fail 1 2", "nn", admin(api.Cmd{Kind: api.CmdFail, Node: 2}), "Node Cmd.Node"},
		{"voters 1 2 0", "nnN", admin(api.Cmd{Kind: api.CmdVoters, Nodes: []int{2, 0}}), "Node Cmd.Nodes"},
		{"width 1 4 5", "nnn", admin(api.Cmd{Kind: api.CmdWidth, Code: code}), "Node Cmd.Code.K Cmd.Code.M"},
		{"deliver 1", "n", api.Step{Kind: api.StepDeliver, N: 1}, "N"},
		{"lose 1", "n", api.Step{Kind: api.StepLose, N: 1}, "N"},
		{"twice 1", "n", api.Step{Kind: api.StepTwice, N: 1}, "N"},
		{"settle 1", "n", api.Step{Kind: api.StepSettle, N: 1}, "N"},
		{"tick 1", "n", api.Step{Kind: api.StepTick, Node: 1}, "Node"},
		{"start 1", "n", api.Step{Kind: api.StepStart, Node: 1}, "Node"},
		{"dead 1", "n", api.Step{Kind: api.StepFail, Node: 1}, "Node"},
		{"crash 1 -1 3 4 5", "nnnNN", api.Step{Kind: api.StepCrash, Node: 1, Torn: -1, Bytes: 3, Keep: []int{4, 5}}, "Node Torn Bytes Keep"},
	}
}

// Section 'Lines': each kind of line is its step.
func TestLines(t *testing.T) {
	parses(t, head)
	script := head
	var all []api.Step
	for _, x := range lines() {
		parses(t, head+x.text, x.step)
		parses(t, head+x.text+"\n", x.step)
		parses(t, head+x.text+"\n"+x.text, x.step, x.step)
		script += x.text + "\n"
		all = append(all, x.step)
	}
	parses(t, script, all...)
}

// P24.1: each kind of line with a word fewer, and one more.
func TestWordsFewerAndMore(t *testing.T) {
	for _, x := range lines() {
		words := strings.Split(x.text, " ")
		least := 1 + strings.IndexAny(x.words+"N", "N")
		for n := range words {
			text := head + strings.Join(words[:n], " ")
			if n >= least || n == 0 {
				if _, _, err := desk.Parse(text); err != nil {
					t.Fatalf("%q: %v", text, err)
				}
				continue
			}
			faults(t, text, 2, api.ErrScript)
			faults(t, text+"\ntick 0", 2, api.ErrScript)
		}
		if least == len(words) {
			faults(t, head+x.text+" 1", 2, api.ErrScript)
			faults(t, head+x.text+" .", 2, api.ErrScript)
			faults(t, head+x.text+" "+x.text, 2, api.ErrScript)
		}
		faults(t, head+x.text+" x", 2, api.ErrScript)
	}
	for _, text := range []string{"cluster", "cluster 3", "cluster 3 2", "cluster 3 2 100", "cluster 3 2 100 2", "cluster 3 2 100 2 1 0", "cluster 3 2 100 2 1 x", "3 2 100 2 1", "cluster  "} {
		faults(t, text, 1, api.ErrScript)
	}
	parses(t, head+"voters 1 2", admin(api.Cmd{Kind: api.CmdVoters, Nodes: []int{2}}))
	faults(t, head+"voters 1", 2, api.ErrScript)
	parses(t, head+"voters 1 2 2 -7 2", admin(api.Cmd{Kind: api.CmdVoters, Nodes: []int{2, 2, -7, 2}}))
	parses(t, head+"crash 1 -1 3", api.Step{Kind: api.StepCrash, Node: 1, Torn: -1, Bytes: 3})
	many := api.Step{Kind: api.StepCrash, Node: 1, Torn: 2, Bytes: 3}
	text := "crash 1 2 3"
	for i := range 5000 {
		many.Keep = append(many.Keep, i%10)
		text += " " + string(rune('0'+i%10))
	}
	parses(t, head+text, many)
}

// P24.1: words that are no kind of line.
func TestFirstWords(t *testing.T) {
	for _, x := range lines() {
		word, rest, _ := strings.Cut(x.text, " ")
		for _, other := range []string{strings.ToUpper(word), strings.ToUpper(word[:1]) + word[1:], word + "s", word[1:], word[:len(word)-1], "x" + word, word + "\x00", word + ".", "\xef\xbb\xbf" + word, "cluster"} {
			faults(t, head+other+" "+rest, 2, api.ErrScript)
		}
	}
	for _, word := range []string{"x", ".", "0", "nop", "ask", "admin", "switch", "recast", "#", "//", "-", "ok"} {
		faults(t, head+word, 2, api.ErrScript)
		faults(t, head+word+" 0", 2, api.ErrScript)
		faults(t, head+word+" 0 a", 2, api.ErrScript)
	}
}

// isNumber is words that are numbers, and what they say.
func isNumber() map[string]int {
	return map[string]int{
		"0": 0, "1": 1, "9": 9, "10": 10, "99": 99, "100": 100, "1234": 1234, "12345": 12345, "999999": 999999,
		"1000000": 1000000, "12345678": 12345678, "100000000": 100000000, "999999999": 999999999,
		"-1": -1, "-9": -9, "-10": -10, "-100000000": -100000000, "-999999999": -999999999,
	}
}

// isNoNumber is words that are none.
func isNoNumber() []string {
	return []string{
		"-", "--1", "-0", "00", "01", "007", "-01", "-00", "0000000000", "0000000001", "000000001", "+1", "+0", "+", "1+", "1-", "1000000000", "-1000000000",
		"9999999999", "2147483648", "9223372036854775807", "9223372036854775808", "-9223372036854775808", "18446744073709551616",
		"99999999999999999999999999", "1.", ".1", "1.0", ".", "1e3", "0x1", "0b1", "0o1", "1_000", "1,000", "a", "x1", "1x", "\t1", "1\t", "1\r",
		"\x001", "1\x00", "\u0661", "\uff11", "\u22121", "\u00a01", "1\u00a0", "'1'", "inf", "nan", "1/1", "1:",
	}
}

// with is a line with another word at a place.
func with(text string, place int, word string) string {
	words := strings.Split(text, " ")
	words[place] = word
	return strings.Join(words, " ")
}

// Section 'Lines': numbers, at each place of each line that has one.
func TestNumbers(t *testing.T) {
	places := 0
	for _, x := range append(lines(), line{text: "cluster 3 2 100 2 1", words: "nnnnn"}) {
		ahead, at := head, 2
		if x.step.Kind == 0 {
			ahead, at = "", 1
		}
		for i, kind := range x.words {
			if kind != 'n' && kind != 'N' {
				continue
			}
			places++
			for _, word := range isNoNumber() {
				faults(t, ahead+with(x.text, i+1, word), at, api.ErrScript)
			}
			for word := range isNumber() {
				if _, _, err := desk.Parse(ahead + with(x.text, i+1, word)); err != nil {
					t.Errorf("%q: %v", with(x.text, i+1, word), err)
				}
			}
		}
	}
	if places != 38 {
		t.Errorf("there are %d places for numbers", places)
	}
	for word, n := range isNumber() {
		parses(t, head+"tick "+word, api.Step{Kind: api.StepTick, Node: n})
		parses(t, head+"settle "+word, api.Step{Kind: api.StepSettle, N: n})
		parses(t, head+"voters 0 0 "+word, api.Step{Kind: api.StepAdmin, Cmd: api.Cmd{Kind: api.CmdVoters, Nodes: []int{0, n}}})
		parses(t, head+"crash 0 "+word+" 5 "+word, api.Step{Kind: api.StepCrash, Torn: n, Bytes: 5, Keep: []int{n}})
		if s, _, err := desk.Parse("cluster 1 2 3 4 " + word); err != nil || s != (api.Setup{Nodes: 1, Voters: 2, Sectors: 3, Code: api.Code{K: 4, M: n}}) {
			t.Errorf("a size with %s: %v, %v", word, s, err)
		}
	}
}

// Section 'Lines': bytes.
func TestBytes(t *testing.T) {
	parses(t, head+"put 1 a .", ask(api.AskPut, "a"))
	every, all := "", []byte{}
	for i := range 256 {
		const digits = "0123456789abcdef"
		word := digits[i/16:i/16+1] + digits[i%16:i%16+1]
		parses(t, head+"put 1 a "+word, ask(api.AskPut, "a", byte(i)))
		every, all = every+word, append(all, byte(i))
	}
	parses(t, head+"put 1 a "+every, ask(api.AskPut, "a", all...))
	long := strings.Repeat("5a", api.MaxBlob+1)
	parses(t, head+"put 1 a "+long, ask(api.AskPut, "a", []byte(strings.Repeat("Z", api.MaxBlob+1))...))
	parses(t, head+"put 1 a 0000", ask(api.AskPut, "a", 0, 0))
	for _, word := range []string{
		"0", "4", "414", "41414", "A0", "0A", "aB", "Ff", "F0", "4g", "g4", "zz", "..", "...", ".41", "41.", ".4", "4.", "4.1", "-1", "+1", "-41",
		"0x41", "\\x41", "41-", "4_1", "\t", "\r", "41\r", "41\t", "\x00\x00", "4\x00", "ää", "\uff14\uff11", "/0", ":0", "`0", "0`", "0/", "0:", "@0", "0@",
		every + "0", long + "g", "\xff\xff",
	} {
		faults(t, head+"put 1 a "+word, 2, api.ErrScript)
	}
}

// Section 'Lines': KEY is any word.
func TestKeys(t *testing.T) {
	for _, key := range keys() {
		parses(t, head+"get 1 "+key, ask(api.AskGet, key))
		parses(t, head+"put 1 "+key+" 41", ask(api.AskPut, key, 'A'))
		parses(t, head+"delete 1 "+key, ask(api.AskDelete, key))
		parses(t, head+"move 1 "+key+" 2 3", admin(api.Cmd{Kind: api.CmdMove, Key: key, Index: 2, Node: 3}))
		parses(t, head+"recode 1 "+key+" 2 3", admin(api.Cmd{Kind: api.CmdRecode, Key: key, Code: api.Code{K: 2, M: 3}}))
	}
}

// keys is words of all sorts.
func keys() []string {
	return []string{
		"a", "0", "-0", "007", "9999999999", ".", "..", "-", "put", "get", "cluster", "settle", "41", "ABC", "ä", "鍵", "\u00a0", "\u2003", "\u3000",
		"\t", "\r", "\v", "\f", "\x00", "\x1f", "\x7f", "\x80", "\xff", "\xc3", "\xe2\x80", "\ufeff", "a\tb", "#", "\"a\"", strings.Repeat("k", 5000),
	}
}

// Section 'Lines': blanks ahead, between and behind.
func TestBlanks(t *testing.T) {
	step := api.Step{Kind: api.StepCrash, Node: 1, Torn: 2, Bytes: 3, Keep: []int{4}}
	for _, ahead := range []string{"", " ", "     "} {
		for _, between := range []string{" ", "  ", "         "} {
			for _, behind := range []string{"", " ", "      "} {
				one := ahead + strings.ReplaceAll(strings.TrimSpace(head), " ", between) + behind
				two := ahead + strings.ReplaceAll("crash 1 2 3 4", " ", between) + behind
				for _, end := range []string{"", "\n", "\n\n", "\n   \n ", " \n"} {
					parses(t, one+"\n"+two+end, step)
					parses(t, one+end)
				}
				parses(t, one+"\n"+two+"\n"+ahead+behind+"\n"+two, step, step)
			}
		}
	}
	for _, white := range []string{"\t", "\r", "\v", "\f", "\u00a0", "\u0085", "\u2003", "\u3000", "\x00", "\u2028", "\x1e"} {
		faults(t, head+"tick"+white+"0", 2, api.ErrScript)
		faults(t, head+white+"tick 0", 2, api.ErrScript)
		faults(t, head+"tick 0"+white, 2, api.ErrScript)
		faults(t, head+"tick "+white+" 0", 2, api.ErrScript)
		faults(t, head+"tick 0\n"+white+"\ntick 0", 3, api.ErrScript)
		faults(t, head+"tick 0"+white+"tick 0", 2, api.ErrScript)
		faults(t, white+"\n"+head, 1, api.ErrScript)
		faults(t, white+head, 1, api.ErrScript)
		faults(t, "cluster"+white+"3 2 100 2 1", 1, api.ErrScript)
		faults(t, "cluster 3 2 100 2 1"+white, 1, api.ErrScript)
	}
	faults(t, "cluster 3 2 100 2 1\r\ntick 0\r\n", 1, api.ErrScript)
}

// P24.1: texts without words.
func TestNoWords(t *testing.T) {
	for _, script := range []string{"", " ", "    ", "\n", "\n\n\n", " \n  \n", "\n ", strings.Repeat("\n", api.MaxText), strings.Repeat(" ", api.MaxText)} {
		faults(t, script, 1, api.ErrScript)
	}
}

// P24.1: empty lines say nothing, and count.
func TestEmptyLines(t *testing.T) {
	tick := api.Step{Kind: api.StepTick}
	for n := range 5 {
		gap := strings.Repeat("\n", n)
		parses(t, gap+head+gap+"tick 0"+gap, tick)
		parses(t, gap+head+gap+"tick 0\n"+gap+"tick 0\n"+gap, tick, tick)
		faults(t, gap+"x", n+1, api.ErrScript)
		faults(t, gap+head+gap+"x", 2*n+2, api.ErrScript)
		faults(t, gap+head+gap+"tick 0\n"+gap+"tick\n", 3*n+3, api.ErrScript)
		faults(t, gap+head+gap+"tick 0\n  "+gap+"tick 0 0", 3*n+3, api.ErrScript)
	}
}

// P24.1: the first line with words is the size, and no other one.
func TestFirstLine(t *testing.T) {
	for _, x := range lines() {
		faults(t, x.text, 1, api.ErrScript)
		faults(t, x.text+"\n"+head, 1, api.ErrScript)
		faults(t, "\n\n"+x.text+"\n"+head, 3, api.ErrScript)
		faults(t, head+x.text+"\n"+head, 3, api.ErrScript)
		faults(t, head+"\n"+head+x.text, 3, api.ErrScript)
	}
	faults(t, head+head, 2, api.ErrScript)
	for _, first := range []string{"cluster 0 0 0 0 0", "cluster -5 9 999999999 -1 7", "cluster 99 99 99 99 99"} {
		if _, l, err := desk.Parse(first + "\ntick 0"); err != nil || len(l) != 1 {
			t.Errorf("%s: %v, %v", first, l, err)
		}
	}
}

// P24.1: how many bytes a text may have.
func TestTextLength(t *testing.T) {
	tick := api.Step{Kind: api.StepTick}
	for _, fill := range []string{" ", "\n"} {
		for _, extra := range []int{-1, 0} {
			text := head + "tick 0" + strings.Repeat(fill, api.MaxText+extra-len(head)-6)
			parses(t, text, tick)
			parses(t, strings.Repeat(fill, api.MaxText+extra-len(head)-6)+head+"tick 0", tick)
		}
		faults(t, head+"tick 0"+strings.Repeat(fill, api.MaxText+1-len(head)-6), 1, api.ErrFull)
		faults(t, strings.Repeat(fill, api.MaxText+1-len(head)-6)+head+"tick 0", 1, api.ErrFull)
		faults(t, strings.Repeat(fill, api.MaxText+1), 1, api.ErrFull)
	}
	key := strings.Repeat("k", api.MaxText-len(head)-6)
	parses(t, head+"get 1 "+key, ask(api.AskGet, key))
	faults(t, head+"get 1 "+key+"k", 1, api.ErrFull)
	faults(t, "x"+strings.Repeat("\nx", api.MaxText/2), 1, api.ErrFull)
	faults(t, head+"x\n"+key+"kkkkk", 1, api.ErrFull)
	faults(t, head+strings.Repeat("ä", api.MaxText/2), 1, api.ErrFull)
	faults(t, head+strings.Repeat("tick 0\n", 1<<20), 1, api.ErrFull)
}

// P24.1: how many steps there may be, and which fault is the first.
func TestSteps(t *testing.T) {
	var all []api.Step
	for range api.MaxSteps {
		all = append(all, api.Step{Kind: api.StepTick, Node: 1})
	}
	full := head + strings.Repeat("tick 1\n", api.MaxSteps)
	fewer := strings.TrimSuffix(full, "tick 1\n")
	parses(t, fewer, all[1:]...)
	parses(t, full, all...)
	parses(t, full+"\n  \n\n", all...)
	parses(t, strings.TrimSuffix(full, "\n"), all...)
	last := api.MaxSteps + 1 // the line of the last step
	faults(t, full+"tick 1", last+1, api.ErrFull)
	faults(t, full+"\n\ntick 1", last+3, api.ErrFull)
	faults(t, "\n"+full+"tick 1\n", last+2, api.ErrFull)
	for _, x := range lines() {
		faults(t, full+x.text, last+1, api.ErrFull)
	}
	for _, wrong := range []string{"tick", "x", "tick 1 1", strings.TrimSpace(head)} {
		faults(t, fewer+wrong+"\n", last, api.ErrScript)
		faults(t, fewer+wrong+"\ntick 1\ntick 1", last, api.ErrScript)
		faults(t, full+wrong, last+1, api.ErrScript)
		faults(t, full+wrong+"\ntick 1", last+1, api.ErrScript)
		faults(t, full+"\n"+wrong+"\ntick 1", last+2, api.ErrScript)
		faults(t, full+"tick 1\n"+wrong, last+1, api.ErrFull)
		faults(t, full+"tick 1\n\n\n"+wrong, last+1, api.ErrFull)
		faults(t, head+wrong+"\n"+strings.Repeat("tick 1\n", 2*api.MaxSteps), 2, api.ErrScript)
	}
	faults(t, head+strings.Repeat("tick 1\n", 3*api.MaxSteps), last+1, api.ErrFull)
	faults(t, strings.Repeat("tick 1\n", 3*api.MaxSteps), 1, api.ErrScript)
}

// P24.1: of several lines that are wrong the first one counts.
func TestFirstFault(t *testing.T) {
	for i := range 20 {
		l := strings.Split(strings.TrimSpace(head+strings.Repeat("tick 0\n", 19)), "\n")
		for k := i; k < 20; k += 3 {
			l[k] = "tick 00"
		}
		faults(t, strings.Join(l, "\n"), i+1, api.ErrScript)
	}
}
