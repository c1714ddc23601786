package keys_test

import (
	"strings"
	"testing"

	"amphora/keys"
)

func TestIs(t *testing.T) {
	for text, want := range map[string]bool{
		"": false, "a": true, "z": true, "0": true, "9": true, "a0z9m5k1": true, "a0z9m5k1b": false,
		"A": false, "Z": false, "a b": false, "a-": false, "\x00": false, "a\xff": false, "ä": false,
		"`": false, "{": false, "/": false, ":": false, strings.Repeat("a", 1<<20): false,
	} {
		if got := keys.Is(text); got != want {
			t.Errorf("%.20q: %v", text, got)
		}
	}
}
