package desk_test

import (
	"slices"
	"strings"
	"testing"

	"amphora/api"
	"amphora/desk"
)

// runs has a script tell lines.
func runs(t *testing.T, script string, want ...string) {
	t.Helper()
	got, err := desk.Run(script)
	if err != nil || !slices.Equal(got, want) {
		t.Fatalf("%q: %q, %v, not %q", script, got, err, want)
	}
}

const one = "cluster 1 1 100 1 0\nsettle 10\n"

// Example 1 of the chapter.
func TestExample(t *testing.T) {
	runs(t, "cluster 1 1 100 1 0\nsettle 10\nput 0 a 41\n", "ok", "ok", "told 1 1")
}

// What the README shows.
func TestReadme(t *testing.T) {
	runs(t, "cluster 3 3 400 2 1\nsettle 15\nput 0 a 616d70686f7261\nsettle 10\ncrash 1 -1 0\nget 2 a\nsettle 10\n",
		"ok", "ok", "ok", "told 1 1", "ok", "ok", "ok", "told 2 1 616d70686f7261")
}

// P24.2: a script without steps tells nothing.
func TestNoSteps(t *testing.T) {
	runs(t, "cluster 1 1 100 1 0")
	runs(t, "\n\n  cluster   1 1 100 1 0  \n\n")
}

// P24.2: cluster.New's error, at 1, wherever the size's line is.
func TestSizesThatAreRefused(t *testing.T) {
	for _, text := range []string{
		"cluster 0 0 100 1 0", "cluster 1 0 100 1 0", "cluster 1 2 100 1 0", "cluster 17 1 100 1 0", "cluster -1 1 100 1 0", "cluster 1 1 5 1 0",
		"cluster 1 1 8193 1 0", "cluster 1 1 100 0 0", "cluster 1 1 100 1 1", "cluster 1 1 100 1 -1", "cluster 999999999 999999999 999999999 999999999 999999999",
		"cluster -999999999 -999999999 -999999999 -999999999 -999999999",
	} {
		for _, script := range []string{text, text + "\nsettle 10\nput 0 a 41", "\n\n" + text, " \n" + text + "\n"} {
			got, err := desk.Run(script)
			isFault(t, script, err, 1, api.ErrArg)
			if len(got) != 0 {
				t.Fatalf("%q: beside a fault %q", script, got)
			}
			if _, _, err := desk.Parse(script); err != nil {
				t.Fatalf("%q: %v", script, err)
			}
		}
		faults(t, "\n"+text+"\nx", 3, api.ErrScript)
	}
	runs(t, "cluster 1 1 6 1 0")
	runs(t, "cluster 16 16 8192 8 8\nsettle 1", "ok")
}

// P24.2: steps that are refused, of each layer, and such that go on.
func TestErrors(t *testing.T) {
	runs(t, one+"tick 1\ntick -1\nput 1 a 41\nsettle 301\nsettle -1\nstart 0\ndeliver 99\nlose 0\ntwice -5\n",
		"ok", "error 1", "error 1", "error 1", "error 1", "error 1", "error 210", "error 90", "error 90", "error 90")
	runs(t, one+"crash 0 -1 0\ncrash 0 -1 0\nput 0 a 41\nwidth 0 1 0\ntick 0\nstart 0\nstart 0\ndead 0\ndead 0\nstart 0\ncrash 0 -1 0\n",
		"ok", "ok", "error 210", "error 210", "error 210", "ok", "ok", "error 210", "ok", "error 60", "error 60", "error 210")
	runs(t, "cluster 2 2 100 1 0\ntick 0\ntick 0\ntick 0\ntick 1\ntick 0\n", "ok", "ok", "error 100", "ok", "ok")
	runs(t, one+"put 0 TOO-LONG-A-KEY 41\nget 0 .\nput 0 a "+strings.Repeat("00", api.MaxBlob+1)+"\nput 0 a 41\nget 0 a",
		"ok", "ok", "told 1 5", "ok", "told 2 5", "ok", "told 3 5", "ok", "told 4 1", "ok", "told 5 1 41")
	runs(t, "cluster 1 1 100 1 0\nmove 0 a 0 16\nvoters 0 16\nvoters 0 0\nadmit 0 -1", "error 1", "error 1", "ok", "error 1")
}

// P24.2: answers with bytes, and with none.
func TestAnswers(t *testing.T) {
	runs(t, one+"put 0 a .\nget 0 a\nput 0 a 41\nget 0 b\ndelete 0 b\nput 0 b 000fff10\nget 0 b\ndelete 0 b\nget 0 b\nput 0 b 00\n",
		"ok", "ok", "told 1 1", "ok", "told 2 1", "ok", "told 3 2", "ok", "told 4 3", "ok", "told 5 3",
		"ok", "told 6 1", "ok", "told 7 1 000fff10", "ok", "told 8 1", "ok", "told 9 3", "ok", "told 10 2")
	every := ""
	for i := range 256 {
		const digits = "0123456789abcdef"
		every += digits[i/16:i/16+1] + digits[i%16:i%16+1]
	}
	runs(t, one+"put 0 a "+every+"\nget 0 a", "ok", "ok", "told 1 1", "ok", "told 2 1 "+every)
}

// P24.2: an answer stands behind the step by which it came, and several in
// their order.
func TestAnswersBehindSteps(t *testing.T) {
	runs(t, "cluster 1 1 100 1 0\nput 0 a 41\nput 0 b 42\nget 0 c\nsettle 3\nsettle 20\nget 0 a\n",
		"ok", "ok", "ok", "ok", "ok", "told 1 1", "told 2 1", "told 3 3", "ok", "told 4 1 41")
	lines := slices.Repeat([]string{"ok"}, 21)
	runs(t, "cluster 1 1 100 1 0\nput 0 a 4142\n"+strings.Repeat("tick 0\n", 20), slices.Insert(lines, 17, "told 1 1")...)
	runs(t, "cluster 3 3 400 1 0\ncrash 1 -1 0\ncrash 2 -1 0\nput 0 a 41\nget 0 b\nsettle 60\nsettle 60\n",
		"ok", "ok", "ok", "ok", "ok", "told 1 4", "told 2 4", "ok")
}

// Rules: what a script tells hangs on it alone.
func TestRunTwice(t *testing.T) {
	script := "cluster 5 3 400 2 1\nsettle 20\nput 0 a 41\nput 1 a 42\nput 2 b 43\nsettle 30\nget 3 a\nget 4 b\nsettle 20\n"
	first, err := desk.Run(script)
	if err != nil || len(first) < 12 {
		t.Fatal(first, err)
	}
	for range 5 {
		runs(t, script, first...)
	}
}
