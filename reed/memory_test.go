package reed

import (
	"slices"
	"testing"

	"amphora/api"
)

// roomy is texts of which all lists have room behind their ends, with bytes
// and texts there that nobody may change.
func roomy(l [][]byte) [][]byte {
	r := make([][]byte, 0, len(l)+2)
	for _, text := range l {
		r = append(r, append(slices.Clone(text), 0xa1, 0xa2, 0xa3)[:len(text)])
	}
	return append(r, []byte{0xb1}, []byte{0xb2, 0xb3})[:len(l)]
}

// whole is a copy of all that the lists of texts reach, their room included.
func whole(l [][]byte) [][]byte {
	var w [][]byte
	for _, text := range l[:cap(l)] {
		w = append(w, slices.Clone(text[:cap(text)]))
	}
	return w
}

// spoil writes over all that the lists of texts reach.
func spoil(l [][]byte) {
	for _, text := range l[:cap(l)] {
		text = text[:cap(text)]
		for k := range text {
			text[k] ^= 0xff
		}
	}
	clear(l[:cap(l)])
}

// listed is a single shard as a list of one.
func listed(shard []byte, e api.Errno) [][]byte { return [][]byte{shard} }

// calls is each call, of all shards of K 3, M 2; some must leave out which
// are missing themselves, and do so by a list of their own.
func calls() map[string]func(all [][]byte) [][]byte {
	c := api.Code{K: 3, M: 2}
	lone := api.Code{K: 3}
	return map[string]func(all [][]byte) [][]byte{
		"Encode":           func(all [][]byte) [][]byte { l, _ := Encode(c, all[:3]); return l },
		"Encode, M 0":      func(all [][]byte) [][]byte { l, _ := Encode(lone, all[:3]); return l },
		"Encode of one":    func(all [][]byte) [][]byte { l, _ := Encode(c, [][]byte{all[1], all[1], all[1]}); return l },
		"Decode":           func(all [][]byte) [][]byte { l, _ := Decode(c, all); return l },
		"Decode, M 0":      func(all [][]byte) [][]byte { l, _ := Decode(lone, all[:3]); return l },
		"Decode of some":   func(all [][]byte) [][]byte { l, _ := Decode(c, without(all, 0, 2)); return l },
		"Repair what is":   func(all [][]byte) [][]byte { return listed(Repair(c, all, 0)) },
		"Repair the last":  func(all [][]byte) [][]byte { return listed(Repair(c, all, 4)) },
		"Repair the first": func(all [][]byte) [][]byte { return listed(Repair(c, without(all, 0), 0)) },
		"Right":            func(all [][]byte) [][]byte { Right(c, all); return nil },
		// These answer errors, and have to leave as much alone.
		"Encode refused":  func(all [][]byte) [][]byte { l, _ := Encode(c, all[:2]); return l },
		"Decode refused":  func(all [][]byte) [][]byte { l, _ := Decode(c, all[:3]); return l },
		"Decode too few":  func(all [][]byte) [][]byte { l, _ := Decode(c, without(all, 0, 1, 2)); return l },
		"Repair refused":  func(all [][]byte) [][]byte { return listed(Repair(c, all, 5)) },
		"Right, of fewer": func(all [][]byte) [][]byte { Right(c, all[:4]); return nil },
	}
}

func someRoomy() [][]byte {
	return roomy(byDefinition(api.Code{K: 3, M: 2}, scattered(3, 4, 11)))
}

func TestArgumentsAreNotChanged(t *testing.T) {
	for name, call := range calls() {
		all := someRoomy()
		before, first := whole(all), &all[0][0]
		call(all)
		if !same(whole(all), before) || first != &all[0][0] {
			t.Errorf("%s changes an argument", name)
		}
	}
}

func TestAnswersAreNewMemory(t *testing.T) {
	for name, call := range calls() {
		all := someRoomy()
		before := whole(all)
		one, other := call(all), call(all)
		kept := whole(other)
		spoil(one)
		if !same(whole(all), before) {
			t.Errorf("%s answers memory of an argument", name)
		}
		if !same(whole(other), kept) {
			t.Errorf("%s answers memory of another answer", name)
		}
		if again := call(all); !same(again, other) {
			t.Errorf("%s answers otherwise the next time", name)
		}
	}
}

func TestShardsOfAnAnswerAreApart(t *testing.T) {
	for name, call := range calls() {
		got := call(someRoomy())
		for i := range got {
			kept := whole(got)
			spoil([][]byte{got[i]})
			for j := range got {
				if j != i && !slices.Equal(got[j][:cap(got[j])], kept[j]) {
					t.Errorf("%s: shards %d and %d share memory", name, i, j)
				}
			}
		}
	}
}

func TestArgumentsAreNotKept(t *testing.T) {
	for name, call := range calls() {
		all := someRoomy()
		got := call(all)
		kept := whole(got)
		spoil(all)
		if !same(whole(got), kept) {
			t.Errorf("%s: its answer changes with an argument", name)
		}
	}
}

// What lies behind the ends of lists does not count.
func TestRoomDoesNotCount(t *testing.T) {
	c := api.Code{K: 3, M: 2}
	tight, wide := byDefinition(c, scattered(3, 4, 11)), someRoomy()
	if !same(must(t)(Encode(c, tight[:3:3])), must(t)(Encode(c, wide[:3]))) {
		t.Error("Encode counts room")
	}
	wide[0] = wide[0][:0]
	tight[0] = nil
	if !same(must(t)(Decode(c, tight)), must(t)(Decode(c, wide))) {
		t.Error("Decode counts room")
	}
	if Right(c, wide) {
		t.Error("Right counts room")
	}
}
