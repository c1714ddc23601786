package stripe

import (
	"bytes"
	"slices"
	"testing"

	"amphora/api"
)

// room is bytes with more behind their end that nobody may change.
func room(l []byte) []byte { return append(slices.Clone(l), 0xa1, 0xa2, 0xa3)[:len(l)] }

// roomy is texts of which all lists have room behind their ends.
func roomy(l [][]byte) [][]byte {
	r := make([][]byte, 0, len(l)+2)
	for _, text := range l {
		r = append(r, room(text))
	}
	return append(r, []byte{0xb1}, []byte{0xb2, 0xb3})[:len(l)]
}

// whole is a copy of all that the lists of texts reach, their room included.
func whole(l [][]byte) [][]byte {
	var w [][]byte
	for _, text := range l[:cap(l)] {
		w = append(w, slices.Clone(text[:cap(text)]))
	}
	return w
}

// spoil writes over all that the lists of texts reach.
func spoil(l [][]byte) {
	for _, text := range l[:cap(l)] {
		text = text[:cap(text)]
		for k := range text {
			text[k] ^= 0xff
		}
	}
	clear(l[:cap(l)])
}

// calls is each call that is handed lists, of texts: all shards of K 2, M 2
// of a blob of 20 bytes, or as the first of them the blob itself.
func calls() map[string]func(l [][]byte) [][]byte {
	c := api.Code{K: 2, M: 2}
	return map[string]func(l [][]byte) [][]byte{
		"Cut":          func(l [][]byte) [][]byte { all, _ := Cut(c, l[0]); return all },
		"Cut, K 1":     func(l [][]byte) [][]byte { all, _ := Cut(api.Code{K: 1}, l[0]); return all },
		"Join":         func(l [][]byte) [][]byte { blob, _ := Join(c, 20, l); return [][]byte{blob} },
		"Join, K 1":    func(l [][]byte) [][]byte { blob, _ := Join(api.Code{K: 1, M: 3}, 16, l); return [][]byte{blob} },
		"Join of none": func(l [][]byte) [][]byte { blob, _ := Join(api.Code{K: 4}, 0, l); return [][]byte{blob} },
		"Join of some": func(l [][]byte) [][]byte {
			blob, _ := Join(c, 20, [][]byte{nil, l[1], nil, l[3]})
			return [][]byte{blob}
		},
		// These answer errors, and have to leave as much alone.
		"Cut refused":  func(l [][]byte) [][]byte { all, _ := Cut(api.Code{}, l[0]); return all },
		"Join refused": func(l [][]byte) [][]byte { blob, _ := Join(c, 50, l); return [][]byte{blob} },
		"Join too few": func(l [][]byte) [][]byte {
			blob, _ := Join(c, 20, [][]byte{nil, nil, nil, l[3]})
			return [][]byte{blob}
		},
	}
}

func someRoomy(t *testing.T) [][]byte {
	return roomy(cut(t, api.Code{K: 2, M: 2}, scattered(20, 4)))
}

func TestArgumentsAreNotChanged(t *testing.T) {
	for name, call := range calls() {
		l := someRoomy(t)
		before, first := whole(l), &l[0][0]
		call(l)
		if !same(whole(l), before) || first != &l[0][0] {
			t.Errorf("%s changes an argument", name)
		}
	}
}

func TestAnswersAreNewMemory(t *testing.T) {
	for name, call := range calls() {
		l := someRoomy(t)
		before := whole(l)
		one, other := call(l), call(l)
		kept := whole(other)
		spoil(one)
		if !same(whole(l), before) {
			t.Errorf("%s answers memory of an argument", name)
		}
		if !same(whole(other), kept) {
			t.Errorf("%s answers memory of another answer", name)
		}
		if again := call(l); !same(again, other) {
			t.Errorf("%s answers otherwise the next time", name)
		}
	}
}

func TestShardsOfAnAnswerAreApart(t *testing.T) {
	for _, c := range []api.Code{{K: 1}, {K: 1, M: 3}, {K: 3, M: 2}} {
		for _, size := range []int{0, 8, 100} {
			got := cut(t, c, scattered(size, 4))
			for i := range got {
				kept := whole(got)
				spoil([][]byte{got[i]})
				for j := range got {
					if j != i && !bytes.Equal(got[j][:cap(got[j])], kept[j]) {
						t.Errorf("%v: shards %d and %d share memory", c, i, j)
					}
				}
			}
		}
	}
}

func TestArgumentsAreNotKept(t *testing.T) {
	for name, call := range calls() {
		l := someRoomy(t)
		got := call(l)
		kept := whole(got)
		spoil(l)
		if !same(whole(got), kept) {
			t.Errorf("%s: its answer changes with an argument", name)
		}
	}
}

// What lies behind the ends of lists does not count.
func TestRoomDoesNotCount(t *testing.T) {
	c := api.Code{K: 2, M: 2}
	blob := scattered(20, 4)
	if !same(cut(t, c, room(blob)), cut(t, c, blob)) {
		t.Error("Cut counts room")
	}
	l := someRoomy(t)
	l[0] = l[0][:0]
	joined(t, c, blob, l)
}
