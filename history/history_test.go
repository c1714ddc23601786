package history_test

import (
	"bytes"
	"fmt"
	"slices"
	"strings"
	"testing"

	"amphora/api"
	"amphora/history"
)

// Short forms of lines: calls, and answers.
func put(id int, key, b string) api.Event {
	return api.Event{ID: id, Kind: api.AskPut, Key: key, Bytes: []byte(b)}
}
func get(id int, key string) api.Event { return api.Event{ID: id, Kind: api.AskGet, Key: key} }
func del(id int, key string) api.Event { return api.Event{ID: id, Kind: api.AskDelete, Key: key} }
func says(id, what int) api.Event      { return api.Event{Answer: true, ID: id, Kind: what} }
func ok(id int) api.Event              { return says(id, api.SaysOK) }
func there(id int) api.Event           { return says(id, api.SaysThere) }
func missing(id int) api.Event         { return says(id, api.SaysMissing) }
func timeout(id int) api.Event         { return says(id, api.SaysTimeout) }
func tells(id int, b string) api.Event {
	return api.Event{Answer: true, ID: id, Kind: api.SaysOK, Bytes: []byte(b)}
}

// text is a journal in short.
func text(l []api.Event) string {
	var s strings.Builder
	for _, e := range l {
		kind := "call"
		if e.Answer {
			kind = "answer"
		}
		fmt.Fprintf(&s, "%s %d kind %d key %q bytes %q; ", kind, e.ID, e.Kind, e.Key, e.Bytes)
	}
	return s.String()
}

// is holds May and Check of a journal against what they should tell, and has
// neither change anything that was handed in.
func is(t *testing.T, name string, l []api.Event, may, right bool) {
	t.Helper()
	given := roomy(l)
	before := text(given[:cap(given)])
	if got := history.May(given); got != may {
		t.Errorf("%s: May %v of %s", name, got, text(l))
	}
	if got := history.Check(given); got != right {
		t.Errorf("%s: Check %v of %s", name, got, text(l))
	}
	if text(given[:cap(given)]) != before {
		t.Errorf("%s: changed: %s", name, text(l))
	}
	for i, e := range given {
		if !slices.Equal(e.Bytes[:cap(e.Bytes)], append(slices.Clone(l[i].Bytes), 'r', 'm')) {
			t.Errorf("%s: the bytes of line %d are changed", name, i)
		}
	}
}

// roomy is a journal with room behind its lists' ends.
func roomy(l []api.Event) []api.Event {
	c := append(slices.Clone(l), put(1, "room", "r"), ok(1))[: len(l) : len(l)+2]
	for i := range c {
		c[i].Bytes = append(slices.Clone(c[i].Bytes), 'r', 'm')
		c[i].Bytes = c[i].Bytes[: len(c[i].Bytes)-2 : len(c[i].Bytes)]
	}
	return c
}

// each is a journal, and what it is.
type each struct {
	name  string
	l     []api.Event
	right bool
}

func check(t *testing.T, all []each) {
	t.Helper()
	for _, x := range all {
		is(t, x.name, x.l, true, x.right)
	}
}

func notMay(t *testing.T, name string, l ...api.Event) {
	t.Helper()
	is(t, name, l, false, false)
}

func may(t *testing.T, name string, l ...api.Event) {
	t.Helper()
	if !history.May(l) {
		t.Errorf("%s: may not be: %s", name, text(l))
	}
}

func TestEmptyJournal(t *testing.T) {
	if !history.May(nil) || !history.Check(nil) || !history.May([]api.Event{}) || !history.Check([]api.Event{}) {
		t.Error("a journal without lines is right")
	}
}

// P22.1: each call has an ID above 0 that no call ahead has.
func TestNumbersOfCalls(t *testing.T) {
	for _, id := range []int{0, -1, -1 << 63} {
		for _, kind := range []int{api.AskPut, api.AskGet, api.AskDelete} {
			notMay(t, "an ID that is none", api.Event{ID: id, Kind: kind, Key: "a"})
		}
	}
	may(t, "IDs in any order", get(1<<63-1, "a"), get(1, "a"), get(7, "a"))
	notMay(t, "an ID twice", get(3, "a"), get(3, "b"))
	notMay(t, "an ID twice, behind its answer", get(3, "a"), missing(3), get(3, "a"))
	notMay(t, "an ID twice, of other kinds", put(3, "a", "x"), get(1, "a"), del(3, "a"))
}

// P22.1: kinds of calls, and which of them have bytes.
func TestKindsOfCalls(t *testing.T) {
	for kind := -2; kind < 9; kind++ {
		l := []api.Event{{ID: 1, Kind: kind, Key: "a"}}
		want := kind >= api.AskPut && kind <= api.AskDelete
		is(t, fmt.Sprintf("kind %d", kind), l, want, want)
		l[0].Bytes = []byte{5}
		is(t, fmt.Sprintf("kind %d with bytes", kind), l, kind == api.AskPut, kind == api.AskPut)
		l[0].Bytes = []byte{}
		is(t, fmt.Sprintf("kind %d with empty bytes", kind), l, want, want)
		l[0].Key = ""
		is(t, fmt.Sprintf("kind %d without a key", kind), l, want, want)
		l[0].Key = "a key that no store would have"
		is(t, fmt.Sprintf("kind %d with a long key", kind), l, want, want)
	}
}

// P22.1: which answers a call may have, with bytes and without, with a key and
// without.
func TestKindsOfAnswers(t *testing.T) {
	for kind := api.AskPut; kind <= api.AskDelete; kind++ {
		for says := -2; says < 9; says++ {
			want := says == api.SaysOK || says == api.SaysTimeout || says == api.SaysNot ||
				says == api.SaysThere && kind == api.AskPut || says == api.SaysMissing && kind != api.AskPut
			bare := says == api.SaysOK && kind == api.AskGet
			for _, b := range [][]byte{nil, {}, {0}, {1, 2}} {
				for _, key := range []string{"", "a", "b"} {
					l := []api.Event{{ID: 1, Kind: kind, Key: "a"}, {Answer: true, ID: 1, Kind: says, Key: key, Bytes: b}}
					if got := history.May(l); got != (want && key == "" && (len(b) == 0 || bare)) {
						t.Errorf("May %v of %s", got, text(l))
					}
				}
			}
		}
	}
}

// P22.1: an answer is one of a call ahead that has none yet.
func TestAnswersOfCalls(t *testing.T) {
	notMay(t, "an answer of no call", ok(1))
	notMay(t, "an answer of another call", get(1, "a"), missing(2))
	notMay(t, "an answer of 0", get(1, "a"), missing(0))
	notMay(t, "an answer ahead of its call", missing(1), get(1, "a"))
	notMay(t, "a second answer", put(1, "a", "x"), ok(1), ok(1))
	notMay(t, "a second answer, behind a timeout", put(1, "a", "x"), timeout(1), ok(1))
	notMay(t, "a timeout behind an answer", get(1, "a"), missing(1), timeout(1))
	notMay(t, "not so twice", get(1, "a"), says(1, api.SaysNot), says(1, api.SaysNot))
	may(t, "answers in another order", put(1, "a", "x"), get(2, "b"), missing(2), ok(1))
	notMay(t, "what is wrong stands last", put(1, "a", "x"), ok(1), get(2, "a"), there(2))
	notMay(t, "what is wrong stands first", there(2), put(1, "a", "x"), ok(1))
}

// The chapter's example, and what it says of a map that is written once, call
// behind call.
func TestSerial(t *testing.T) {
	check(t, []each{
		{"two puts, both OK", []api.Event{put(1, "a", "x"), ok(1), put(2, "a", "x"), ok(2)}, false},
		{"two puts at once, both OK", []api.Event{put(1, "a", "x"), put(2, "a", "x"), ok(2), ok(1)}, false},
		{"two puts", []api.Event{put(1, "a", "x"), ok(1), put(2, "a", "y"), there(2)}, true},
		{"the first put is there", []api.Event{put(1, "a", "x"), there(1)}, false},
		{"the first of two is there", []api.Event{put(1, "a", "x"), there(1), put(2, "a", "y"), ok(2)}, false},
		{"a get of nothing", []api.Event{get(1, "a"), missing(1)}, true},
		{"a get of nothing tells", []api.Event{get(1, "a"), tells(1, "x")}, false},
		{"a get of nothing tells nothing", []api.Event{get(1, "a"), ok(1)}, false},
		{"a get", []api.Event{put(1, "a", "x"), ok(1), get(2, "a"), tells(2, "x")}, true},
		{"a get that misses", []api.Event{put(1, "a", "x"), ok(1), get(2, "a"), missing(2)}, false},
		{"a get ahead of the put", []api.Event{get(2, "a"), tells(2, "x"), put(1, "a", "x"), ok(1)}, false},
		{"a get of other bytes", []api.Event{put(1, "a", "x"), ok(1), get(2, "a"), tells(2, "y")}, false},
		{"a get of more bytes", []api.Event{put(1, "a", "x"), ok(1), get(2, "a"), tells(2, "xx")}, false},
		{"a get of the bytes that were refused", []api.Event{put(1, "a", "x"), ok(1), put(2, "a", "y"), there(2), get(3, "a"), tells(3, "y")}, false},
		{"empty bytes", []api.Event{put(1, "a", ""), ok(1), get(2, "a"), ok(2)}, true},
		{"empty bytes miss", []api.Event{put(1, "a", ""), ok(1), get(2, "a"), missing(2)}, false},
		{"empty bytes of others", []api.Event{put(1, "a", "x"), ok(1), get(2, "a"), ok(2)}, false},
		{"others of empty bytes", []api.Event{put(1, "a", ""), ok(1), get(2, "a"), tells(2, "x")}, false},
		{"a delete of nothing", []api.Event{del(1, "a"), missing(1)}, true},
		{"a delete of nothing, OK", []api.Event{del(1, "a"), ok(1)}, false},
		{"a delete", []api.Event{put(1, "a", "x"), ok(1), del(2, "a"), ok(2)}, true},
		{"a delete that misses", []api.Event{put(1, "a", "x"), ok(1), del(2, "a"), missing(2)}, false},
		{"a delete ahead of the put", []api.Event{del(2, "a"), ok(2), put(1, "a", "x"), ok(1)}, false},
		{"two deletes", []api.Event{put(1, "a", "x"), ok(1), del(2, "a"), ok(2), del(3, "a"), missing(3)}, true},
		{"two deletes, both OK", []api.Event{put(1, "a", "x"), ok(1), del(2, "a"), ok(2), del(3, "a"), ok(3)}, false},
		{"two deletes at once, both OK", []api.Event{put(1, "a", "x"), ok(1), del(2, "a"), del(3, "a"), ok(2), ok(3)}, false},
		{"a get behind a delete", []api.Event{put(1, "a", "x"), ok(1), del(2, "a"), ok(2), get(3, "a"), missing(3)}, true},
		{"a get behind a delete tells", []api.Event{put(1, "a", "x"), ok(1), del(2, "a"), ok(2), get(3, "a"), tells(3, "x")}, false},
		{"a deleted key is put anew", []api.Event{put(1, "a", "x"), ok(1), del(2, "a"), ok(2), put(3, "a", "x"), ok(3)}, false},
		{"a deleted key is there", []api.Event{put(1, "a", "x"), ok(1), del(2, "a"), ok(2), put(3, "a", "y"), there(3)}, true},
		{"a key is missed, put, read, deleted, missed, there", []api.Event{get(1, "a"), missing(1), del(2, "a"), missing(2), put(3, "a", "x"), ok(3),
			get(4, "a"), tells(4, "x"), del(5, "a"), ok(5), get(6, "a"), missing(6), put(7, "a", "z"), there(7)}, true},
	})
}

// Calls that overlap may stand in either order, and calls that do not in one.
func TestOverlaps(t *testing.T) {
	check(t, []each{
		{"a get within a put misses", []api.Event{put(1, "a", "x"), get(2, "a"), missing(2), ok(1)}, true},
		{"a get within a put tells", []api.Event{put(1, "a", "x"), get(2, "a"), tells(2, "x"), ok(1)}, true},
		{"a put within a get misses", []api.Event{get(2, "a"), put(1, "a", "x"), ok(1), missing(2)}, true},
		{"a put within a get tells", []api.Event{get(2, "a"), put(1, "a", "x"), ok(1), tells(2, "x")}, true},
		{"a get tells, and a later one misses", []api.Event{put(1, "a", "x"), get(2, "a"), tells(2, "x"), get(3, "a"), missing(3), ok(1)}, false},
		{"a get misses, and a later one tells", []api.Event{put(1, "a", "x"), get(2, "a"), missing(2), get(3, "a"), tells(3, "x"), ok(1)}, true},
		{"gets that overlap", []api.Event{put(1, "a", "x"), get(2, "a"), get(3, "a"), tells(2, "x"), missing(3), ok(1)}, true},
		{"a put that is there ahead of the end of the first", []api.Event{put(1, "a", "x"), put(2, "a", "y"), there(2), ok(1)}, true},
		{"it is there ahead of the first", []api.Event{put(2, "a", "y"), there(2), put(1, "a", "x"), ok(1)}, false},
		{"it is there, and a later get misses", []api.Event{put(1, "a", "x"), put(2, "a", "y"), there(2), get(3, "a"), missing(3), ok(1)}, false},
		{"the later put is the first", []api.Event{put(1, "a", "x"), put(2, "a", "y"), ok(2), there(1)}, true},
		{"a delete within a put", []api.Event{put(1, "a", "x"), del(2, "a"), ok(2), ok(1)}, true},
		{"a delete within a put misses", []api.Event{put(1, "a", "x"), del(2, "a"), missing(2), ok(1)}, true},
		{"deletes within a put, the first one OK", []api.Event{put(1, "a", "x"), del(2, "a"), ok(2), del(3, "a"), missing(3), ok(1)}, true},
		{"deletes within a put, the second one OK", []api.Event{put(1, "a", "x"), del(2, "a"), missing(2), del(3, "a"), ok(3), ok(1)}, true},
		{"a delete, then a put that is OK behind a get", []api.Event{put(1, "a", "x"), del(2, "a"), get(3, "a"), tells(3, "x"), ok(2), get(4, "a"), missing(4), ok(1)}, true},
		{"bytes, none, bytes again", []api.Event{put(1, "a", "x"), ok(1), del(2, "a"), get(3, "a"), missing(3), get(4, "a"), tells(4, "x"), ok(2)}, false},
		{"bytes, then none, within a delete", []api.Event{put(1, "a", "x"), ok(1), del(2, "a"), get(3, "a"), tells(3, "x"), get(4, "a"), missing(4), ok(2)}, true},
		{"none behind the delete, none ahead of the put", []api.Event{get(5, "a"), put(1, "a", "x"), ok(1), get(3, "a"), del(2, "a"), ok(2), missing(3), missing(5)}, true},
		{"a get between both misses", []api.Event{put(1, "a", "x"), ok(1), get(3, "a"), missing(3), del(2, "a"), ok(2)}, false},
		{"a get over all tells", []api.Event{get(3, "a"), put(1, "a", "x"), ok(1), del(2, "a"), ok(2), tells(3, "x")}, true},
		{"a get from the delete on tells", []api.Event{put(1, "a", "x"), ok(1), del(2, "a"), get(3, "a"), ok(2), tells(3, "x")}, true},
	})
}

// Calls that are not answered, or otherwise than in time: what they were asked
// for has happened, may have, or can't have.
func TestOpenCalls(t *testing.T) {
	for _, end := range [][]int{{}, {api.SaysTimeout}, {api.SaysNot}} {
		// open is a call, and behind it what it is told at once, or nothing: that
		// has no place in time.
		open := func(e api.Event) []api.Event {
			l := []api.Event{e}
			for _, what := range end {
				l = append(l, says(e.ID, what))
			}
			return l
		}
		join := func(parts ...[]api.Event) []api.Event { return slices.Concat(parts...) }
		one := func(l ...api.Event) []api.Event { return l }
		check(t, []each{
			{"open calls alone", join(open(put(1, "a", "x")), open(get(2, "a")), open(del(3, "a"))), true},
			{"a put must have been", join(open(put(1, "a", "x")), one(get(2, "a"), tells(2, "x"))), true},
			{"another put must have been", join(open(put(1, "a", "x")), open(put(3, "a", "y")), one(get(2, "a"), tells(2, "y"))), true},
			{"both must have been", join(open(put(1, "a", "x")), open(put(3, "a", "y")), one(get(2, "a"), tells(2, "y"), get(4, "a"), tells(4, "x"))), false},
			{"a put that can't have been yet", join(one(get(2, "a"), tells(2, "x")), open(put(1, "a", "x"))), false},
			{"a put may have been", join(open(put(1, "a", "x")), one(get(2, "a"), missing(2))), true},
			{"a put is late", join(open(put(1, "a", "x")), one(get(2, "a"), missing(2), get(3, "a"), tells(3, "x"))), true},
			{"a put was, and was not", join(open(put(1, "a", "x")), one(get(2, "a"), tells(2, "x"), get(3, "a"), missing(3))), false},
			{"a put has others be there", join(open(put(1, "a", "x")), one(put(2, "a", "y"), there(2))), true},
			{"a put can't have been", join(open(put(1, "a", "x")), one(put(2, "a", "y"), ok(2), get(3, "a"), tells(3, "x"))), false},
			{"a put of the same bytes", join(open(put(1, "a", "y")), one(put(2, "a", "y"), ok(2), get(3, "a"), tells(3, "y"))), true},
			{"a delete of an open put", join(open(put(1, "a", "x")), one(del(2, "a"), ok(2))), true},
			{"a delete must have been", join(one(put(1, "a", "x"), ok(1)), open(del(2, "a")), one(get(3, "a"), missing(3))), true},
			{"a delete is late", join(one(put(1, "a", "x"), ok(1)), open(del(2, "a")), one(get(3, "a"), tells(3, "x"), get(4, "a"), missing(4))), true},
			{"a delete was, and was not", join(one(put(1, "a", "x"), ok(1)), open(del(2, "a")), one(get(3, "a"), missing(3), get(4, "a"), tells(4, "x"))), false},
			{"a delete that can't have been yet", join(one(put(1, "a", "x"), ok(1), get(3, "a"), missing(3)), open(del(2, "a"))), false},
			{"a delete, then another one", join(one(put(1, "a", "x"), ok(1)), open(del(2, "a")), one(del(3, "a"), ok(3), get(4, "a"), missing(4))), true},
			{"a delete, then another one that misses", join(one(put(1, "a", "x"), ok(1)), open(del(2, "a")), one(del(3, "a"), missing(3))), true},
			{"both are open", join(open(put(1, "a", "x")), open(del(2, "a")), one(get(3, "a"), missing(3), get(4, "a"), tells(4, "x"), get(5, "a"), missing(5), put(6, "a", "z"), there(6))), true},
			{"both are open, and a put is OK", join(open(put(1, "a", "x")), open(del(2, "a")), one(get(4, "a"), tells(4, "x"), get(5, "a"), missing(5), put(6, "a", "z"), ok(6))), false},
			{"an open get tells nothing", join(one(put(1, "a", "x"), ok(1)), open(get(2, "a")), one(get(3, "a"), tells(3, "x"))), true},
			{"empty bytes of an open put", join(open(put(1, "a", "")), one(get(2, "a"), ok(2))), true},
			{"empty bytes of nobody", join(open(put(1, "a", "x")), one(get(2, "a"), ok(2))), false},
		})
	}
	check(t, []each{
		{"it is told behind what it did", []api.Event{put(1, "a", "x"), get(2, "a"), missing(2), timeout(1), get(3, "a"), missing(3), get(4, "a"), tells(4, "x")}, true},
	})
}

// P22.3: keys know nothing of one another.
func TestKeysApart(t *testing.T) {
	check(t, []each{
		{"the other key has the bytes", []api.Event{put(1, "a", "x"), ok(1), get(2, "b"), tells(2, "x")}, false},
		{"the other key has none", []api.Event{put(1, "a", "x"), ok(1), get(2, "b"), missing(2)}, true},
		{"both are put", []api.Event{put(1, "a", "x"), ok(1), put(2, "b", "y"), ok(2), get(3, "a"), tells(3, "x"), get(4, "b"), tells(4, "y")}, true},
		{"the first key is wrong", []api.Event{put(1, "a", "x"), ok(1), put(2, "b", "y"), ok(2), get(3, "a"), tells(3, "y"), get(4, "b"), tells(4, "y")}, false},
		{"the last key is wrong", []api.Event{put(1, "a", "x"), ok(1), put(2, "b", "y"), ok(2), get(3, "a"), tells(3, "x"), get(4, "b"), tells(4, "x")}, false},
		{"keys that begin the same", []api.Event{put(1, "a", "x"), ok(1), put(2, "a ", "y"), ok(2), put(3, "", "z"), ok(3), get(4, ""), tells(4, "z")}, true},
		{"the delete is the other's", []api.Event{put(1, "a", "x"), ok(1), put(2, "b", "x"), ok(2), del(3, "b"), ok(3), get(4, "a"), missing(4)}, false},
	})
}

// What is told does not hang on what stands ahead in another call, nor on what
// the lists handed in become.
func TestFromArgumentsAlone(t *testing.T) {
	b := []byte("x")
	l := []api.Event{{ID: 1, Kind: api.AskPut, Key: "a", Bytes: b}, ok(1), get(2, "a"), tells(2, "x")}
	if !history.Check(l) {
		t.Fatal("a right journal")
	}
	copy(b, "y")
	if history.Check(l) {
		t.Fatal("the bytes are others now")
	}
	l[3].Bytes = bytes.Clone(b)
	l[0].ID, l[1].ID = 9, 9
	if !history.May(l) || !history.Check(l) {
		t.Fatal("a right journal, of other numbers")
	}
}
