package history_test

import (
	"bytes"
	"slices"
	"strconv"
	"testing"
	"time"

	"amphora/api"
	"amphora/history"
)

// dice is numbers that look thrown, the same ones at each run.
type dice uint32

func (d *dice) roll(n int) int {
	*d = *d*1664525 + 1013904223
	return int(uint32(*d) >> 8 % uint32(n))
}

// of is one of some.
func of[T any](d *dice, l ...T) T { return l[d.roll(len(l))] }

// mayBe is the chapter's words, line by line.
func mayBe(l []api.Event) bool {
	for i, e := range l {
		ahead := l[:i]
		call := slices.IndexFunc(ahead, func(x api.Event) bool { return !x.Answer && x.ID == e.ID })
		if !e.Answer {
			if e.ID <= 0 || call >= 0 || e.Kind < api.AskPut || e.Kind > api.AskDelete || len(e.Bytes) > 0 && e.Kind != api.AskPut {
				return false
			}
			continue
		}
		if call < 0 || slices.ContainsFunc(ahead, func(x api.Event) bool { return x.Answer && x.ID == e.ID }) {
			return false
		}
		kind := l[call].Kind
		switch {
		case e.Kind < api.SaysOK || e.Kind > api.SaysNot:
			return false
		case e.Kind == api.SaysThere && kind != api.AskPut:
			return false
		case e.Kind == api.SaysMissing && kind != api.AskGet && kind != api.AskDelete:
			return false
		case len(e.Bytes) > 0 && !(e.Kind == api.SaysOK && kind == api.AskGet):
			return false
		case e.Key != "":
			return false
		}
	}
	return true
}

// cell is what a key has.
type cell struct {
	put, gone bool
	b         string
}

// does is what a map that is written once answers, and what the key has then.
func does(c cell, e api.Event) (cell, int, string) {
	has := c.put && !c.gone
	switch {
	case e.Kind == api.AskPut && !c.put:
		return cell{put: true, b: string(e.Bytes)}, api.SaysOK, ""
	case e.Kind == api.AskPut:
		return c, api.SaysThere, ""
	case e.Kind == api.AskGet && has:
		return c, api.SaysOK, c.b
	case e.Kind == api.AskDelete && has:
		return cell{put: true, gone: true}, api.SaysOK, ""
	}
	return c, api.SaysMissing, ""
}

// isRight tries all sets of calls, and all orders of them.
func isRight(l []api.Event) bool {
	answer := map[int]int{} // a call's answer in time, by both their places
	for i, e := range l {
		for j := i + 1; j < len(l) && !e.Answer; j++ {
			if l[j].Answer && l[j].ID == e.ID && l[j].Kind <= api.SaysMissing {
				answer[i] = j
			}
		}
	}
	used := map[int]int{}
	var try func(m map[string]cell, left int) bool
	try = func(m map[string]cell, left int) bool {
		if left == 0 {
			return true
		}
		for i, e := range l {
			if e.Answer || used[i] == 1 || slices.ContainsFunc(l[:i], func(x api.Event) bool {
				return !x.Answer && x.ID != e.ID && answeredAhead(l, answer, used, x, i)
			}) {
				continue
			}
			next, says, b := does(m[e.Key], e)
			at, answered := answer[i]
			if answered && (l[at].Kind != says || string(l[at].Bytes) != b) {
				continue
			}
			was := m[e.Key]
			used[i], m[e.Key] = 1, next
			rest := left
			if answered {
				rest--
			}
			if try(m, rest) {
				return true
			}
			used[i], m[e.Key] = 0, was
		}
		return false
	}
	return try(map[string]cell{}, len(answer))
}

// answeredAhead tells whether a call that is still to come was answered ahead
// of a line.
func answeredAhead(l []api.Event, answer, used map[int]int, x api.Event, line int) bool {
	i := slices.IndexFunc(l, func(y api.Event) bool { return !y.Answer && y.ID == x.ID })
	at, ok := answer[i]
	return ok && at < line && used[i] == 0
}

// held holds both calls against the chapter's words.
func held(t *testing.T, l []api.Event) bool {
	t.Helper()
	may := mayBe(l)
	right := may && isRight(l)
	if got := history.May(l); got != may {
		t.Fatalf("May %v of %s", got, text(l))
	}
	if got := history.Check(l); got != right {
		t.Fatalf("Check %v of %s", got, text(l))
	}
	return right
}

// options are all calls of one key, with all answers that are telling.
func options() [][]api.Event {
	var l [][]api.Event
	for _, b := range []string{"x", ""} {
		l = append(l, []api.Event{put(0, "a", b)}, []api.Event{put(0, "a", b), ok(0)}, []api.Event{put(0, "a", b), there(0)}, []api.Event{put(0, "a", b), timeout(0)})
		l = append(l, []api.Event{get(0, "a"), tells(0, b)})
	}
	l = append(l, []api.Event{get(0, "a"), missing(0)}, []api.Event{get(0, "a")})
	return append(l, []api.Event{del(0, "a"), ok(0)}, []api.Event{del(0, "a"), missing(0)}, []api.Event{del(0, "a")})
}

// mixes tells all journals in which calls begin in their order, and are
// answered at any time behind.
func mixes(calls [][]api.Event, told func(l []api.Event)) {
	var l []api.Event
	var next func(begun int, open []api.Event)
	next = func(begun int, open []api.Event) {
		if begun == len(calls) && len(open) == 0 {
			told(l)
			return
		}
		if begun < len(calls) {
			l = append(l, calls[begun][0])
			more := slices.Concat(open, calls[begun][1:])
			next(begun+1, more)
			l = l[:len(l)-1]
		}
		for i, e := range open {
			l = append(l, e)
			next(begun, slices.Concat(open[:i], open[i+1:]))
			l = l[:len(l)-1]
		}
	}
	next(0, nil)
}

// P22.1: all journals of up to three calls of one key.
func TestAllShortJournals(t *testing.T) {
	count := [2]int{}
	numbered := func(l []api.Event, id int) []api.Event {
		l = slices.Clone(l)
		for i := range l {
			l[i].ID = id
		}
		return l
	}
	var choose func(calls [][]api.Event)
	choose = func(calls [][]api.Event) {
		mixes(calls, func(l []api.Event) {
			if held(t, l) {
				count[1]++
			} else {
				count[0]++
			}
		})
		if len(calls) == 3 {
			return
		}
		for _, o := range options() {
			choose(append(slices.Clone(calls), numbered(o, len(calls)+1)))
		}
	}
	choose(nil)
	if count[0] < 5000 || count[1] < 5000 {
		t.Errorf("%d wrong ones, %d right ones: too few to tell", count[0], count[1])
	}
}

// script is a journal of a map that is written once, whose calls overlap; some
// of its answers may be others then.
func script(d *dice, calls, keys, wrong int) []api.Event {
	var l []api.Event
	m := map[string]cell{}
	type pending struct {
		ask   api.Event
		took  bool
		reply api.Event
	}
	var open []pending
	for begun := 0; begun < calls || len(open) > 0; {
		i := 0
		if len(open) > 0 {
			i = d.roll(len(open))
		}
		switch r := d.roll(8); {
		case r < 3 && begun < calls:
			begun++
			key := string(rune('a' + d.roll(keys)))
			e := of(d, put(begun, key, of(d, "x", "y", "")), get(begun, key), get(begun, key), del(begun, key))
			l = append(l, e)
			open = append(open, pending{ask: e})
		case len(open) == 0:
		case r < 6 && !open[i].took:
			next, what, b := does(m[open[i].ask.Key], open[i].ask)
			m[open[i].ask.Key] = next
			open[i].took = true
			open[i].reply = api.Event{Answer: true, ID: open[i].ask.ID, Kind: what, Bytes: []byte(b)}
		case r < 6:
			l = append(l, open[i].reply)
			open = slices.Delete(open, i, i+1)
		case r == 6 && d.roll(3) == 0:
			l = append(l, says(open[i].ask.ID, of(d, api.SaysTimeout, api.SaysNot)))
			open = slices.Delete(open, i, i+1)
		case r == 7 && d.roll(4) == 0:
			open = slices.Delete(open, i, i+1)
		}
	}
	for range wrong {
		spoil(d, l)
	}
	return l
}

// spoil turns something of a line.
func spoil(d *dice, l []api.Event) {
	if len(l) == 0 {
		return
	}
	e := &l[d.roll(len(l))]
	switch r := d.roll(12); {
	case r < 6 && e.Answer:
		e.Kind = 1 + d.roll(3)
		e.Bytes = nil
	case r < 8 && e.Answer:
		e.Bytes = []byte(of(d, "x", "y", ""))
	case r == 8:
		e.Kind = d.roll(7)
	case r == 9:
		e.ID = d.roll(len(l)+2) - 1
	case r == 10 && d.roll(4) == 0:
		e.Answer = !e.Answer
	case r == 11:
		i := d.roll(len(l))
		*e, l[i] = l[i], *e
	}
}

// P22.1, P22.4: journals of several keys, right ones and others, and all of
// their beginnings.
func TestManyJournals(t *testing.T) {
	count := [2]int{}
	for seed := range 6000 {
		d := dice(seed)
		l := script(&d, d.roll(8), 1+d.roll(2), seed%4)
		right := held(t, l)
		if seed%4 == 0 && !right {
			t.Fatalf("seed %d: the map's own journal is not right: %s", seed, text(l))
		}
		for n := range l {
			if held(t, l[:n]) {
				count[1]++
			} else if count[0]++; right {
				t.Fatalf("seed %d: a beginning of a right journal is not: %s", seed, text(l[:n]))
			}
		}
	}
	if count[0] < 3000 || count[1] < 10000 {
		t.Errorf("%d wrong ones, %d right ones: too few to tell", count[0], count[1])
	}
}

// P22.2: journals of calls that are answered at once are right, and not so any
// more with another answer.
func TestSerialJournals(t *testing.T) {
	for seed := range 300 {
		d := dice(seed)
		m := map[string]cell{}
		var l []api.Event
		for id := 1; id <= 60; id++ {
			key := string(rune('a' + d.roll(5)))
			e := of(&d, put(id, key, of(&d, "x", "yy", "")), get(id, key), get(id, key), del(id, key))
			next, what, b := does(m[key], e)
			m[key] = next
			l = append(l, e, api.Event{Answer: true, ID: id, Kind: what, Bytes: []byte(b)})
		}
		is(t, "serial", l, true, true)
		at := 1 + 2*d.roll(60)
		was := l[at]
		switch {
		case was.Kind == api.SaysThere || was.Kind == api.SaysMissing:
			l[at].Kind = api.SaysOK
		case len(was.Bytes) > 0:
			l[at].Bytes = append(bytes.Clone(was.Bytes), 'z')
		case l[at-1].Kind == api.AskPut:
			l[at].Kind = api.SaysThere
		default:
			l[at].Kind = api.SaysMissing
		}
		is(t, "one answer is another one", l, true, false)
	}
}

// P22.3: a journal is right just if each key's is.
func TestApart(t *testing.T) {
	count := [2]int{}
	for seed := range 3000 {
		d := dice(seed)
		l := script(&d, 4+d.roll(30), 3, 0)
		for range seed % 3 {
			if at := d.roll(len(l)); l[at].Answer {
				l[at].Kind = 1 + d.roll(3)
				l[at].Bytes = nil
			}
		}
		if !history.May(l) {
			continue
		}
		each := true
		for _, key := range []string{"a", "b", "c"} {
			var part []api.Event
			for _, e := range l {
				if l[slices.IndexFunc(l, func(x api.Event) bool { return !x.Answer && x.ID == e.ID })].Key == key {
					part = append(part, e)
				}
			}
			each = history.Check(part) && each
		}
		if history.Check(l) != each {
			t.Fatalf("seed %d: each key's: %v; %s", seed, each, text(l))
		}
		if each {
			count[1]++
		} else {
			count[0]++
		}
	}
	if count[0] < 300 || count[1] < 300 {
		t.Errorf("%d wrong ones, %d right ones: too few to tell", count[0], count[1])
	}
}

// Journals of many calls are told soon, also if none of them is answered, or
// if they all overlap.
func TestLongJournals(t *testing.T) {
	const many = 60000
	begin := time.Now()
	tell := func(name string, l []api.Event, want bool) {
		t.Helper()
		if !history.May(l) || history.Check(l) != want {
			t.Errorf("%s: should be %v", name, want)
		}
	}
	var open []api.Event
	for id := 1; id <= many; id += 3 {
		open = append(open, put(id, "a", "x"), get(id+1, "a"), del(id+2, "a"))
	}
	tell("none is answered", open, true)
	tell("bytes that nobody put", slices.Concat(open, []api.Event{get(many+1, "a"), tells(many+1, "y")}), false)
	late := slices.Clone(open)
	for id := 1; id <= many; id += 3 {
		late = append(late, there(id), tells(id+1, "x"), missing(id+2))
	}
	tell("all puts are there", late, false)
	first := &late[len(open)]
	*first = ok(1)
	tell("one put is OK", late, true)
	tell("its bytes are missed later", slices.Concat(late, []api.Event{get(many+1, "a"), missing(many + 1)}), false)
	*first = timeout(1)
	tell("one put is open", late, true)
	late[len(open)+2] = ok(3)
	tell("its bytes are missed behind a delete", slices.Concat(late, []api.Event{get(many+1, "a"), missing(many + 1)}), true)
	var keys []api.Event
	for id := 1; id <= many; id += 2 {
		key := strconv.Itoa(id)
		keys = append(keys, put(id, key, "x"), get(id+1, key), ok(id), tells(id+1, "x"))
	}
	tell("many keys", keys, true)
	keys[len(keys)-1] = tells(many, "y")
	tell("the last of many keys is wrong", keys, false)
	if d := time.Since(begin); d > 30*time.Second {
		t.Errorf("it took %v", d)
	}
}
