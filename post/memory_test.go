package post_test

import (
	"slices"
	"testing"

	"amphora/api"
	"amphora/post"
)

// room is a list with more behind its end that nobody may change.
func room[T any](l []T, more ...T) []T { return append(slices.Clone(l), more...)[:len(l)] }

// roomy is a letter of which all lists have room behind their ends.
func roomy(seed int) api.Msg {
	m := letter(seed)
	m.Cmd.Nodes = room(m.Cmd.Nodes, -1, -2)
	m.Bytes = room(m.Bytes, 0xa1, 0xa2, 0xa3)
	for i := range m.Votes {
		m.Votes[i].Cmd.Nodes = room(m.Votes[i].Cmd.Nodes, -3)
	}
	m.Votes = room(m.Votes, api.Vote{Slot: -4, Cmd: api.Cmd{Nodes: []int{-5, -6}}})
	return m
}

// whole is a message's text with all that its lists reach.
func whole(m api.Msg) string {
	m.Cmd.Nodes = m.Cmd.Nodes[:cap(m.Cmd.Nodes)]
	m.Bytes = m.Bytes[:cap(m.Bytes)]
	m.Votes = slices.Clone(m.Votes[:cap(m.Votes)])
	for i, v := range m.Votes {
		m.Votes[i].Cmd.Nodes = v.Cmd.Nodes[:cap(v.Cmd.Nodes)]
	}
	return text(m)
}

// lists is all lists of messages, as far as they reach.
type lists struct {
	nodes [][]int
	votes [][]api.Vote
	bytes [][]byte
}

func reached(msgs ...api.Msg) lists {
	var l lists
	for _, m := range msgs {
		l.nodes = append(l.nodes, m.Cmd.Nodes[:cap(m.Cmd.Nodes)])
		l.bytes = append(l.bytes, m.Bytes[:cap(m.Bytes)])
		l.votes = append(l.votes, m.Votes[:cap(m.Votes)])
		for _, v := range m.Votes[:cap(m.Votes)] {
			l.nodes = append(l.nodes, v.Cmd.Nodes[:cap(v.Cmd.Nodes)])
		}
	}
	return l
}

// mark writes over each list's items with its own number.
func (l lists) mark() {
	for i, n := range l.nodes {
		for k := range n {
			n[k] = -100 - i
		}
	}
	for i, v := range l.votes {
		for k := range v {
			v[k] = api.Vote{Slot: -100 - i}
		}
	}
	for i, b := range l.bytes {
		for k := range b {
			b[k] = byte(100 + i)
		}
	}
}

// apart tells whether no list has the number of another one.
func (l lists) apart() bool {
	for i, n := range l.nodes {
		if slices.ContainsFunc(n, func(x int) bool { return x != -100-i }) {
			return false
		}
	}
	for i, v := range l.votes {
		if slices.ContainsFunc(v, func(x api.Vote) bool { return x.Slot != -100-i }) {
			return false
		}
	}
	for i, b := range l.bytes {
		if slices.ContainsFunc(b, func(x byte) bool { return x != byte(100+i) }) {
			return false
		}
	}
	return true
}

// spoil writes over all that messages reach.
func spoil(msgs ...api.Msg) { reached(msgs...).mark() }

// messages is those of packets.
func messages(l []api.Sent) []api.Msg {
	var msgs []api.Msg
	for _, s := range l {
		msgs = append(msgs, s.Msg)
	}
	return msgs
}

// What is sent is not changed, and may be written over.
func TestMessagesAreNotChangedNorKept(t *testing.T) {
	p, m := post.New(), roomy(3)
	before := whole(m)
	send(t, p, m, 1)
	send(t, p, m, 2)
	twice(t, p, 1, 3)
	spoil(messages(p.Packets())...)
	take(t, p, 2, letter(3))
	lose(t, p, 3)
	if whole(m) != before {
		t.Fatal("a message that was sent is changed")
	}
	twice(t, p, 1, 4)
	spoil(m)
	has(t, "the argument spoilt", p, packet{1, 3}, packet{4, 3})
	take(t, p, 1, letter(3))
	take(t, p, 4, letter(3))
}

// A message that was refused is not changed either.
func TestRefusedMessagesAreNotChanged(t *testing.T) {
	p, want := loaded(t, api.MaxPackets)
	m := roomy(3)
	before := whole(m)
	if _, e := p.Send(m); e != api.ErrFull || whole(m) != before {
		t.Fatalf("refused: error %d, or changed", e)
	}
	spoil(m)
	has(t, "a refused message spoilt", p, want...)
}

// What Packets told may be written over, its spare room included.
func TestPacketsAreNewMemory(t *testing.T) {
	p := post.New()
	send(t, p, letter(3), 1)
	send(t, p, letter(6), 2)
	twice(t, p, 1, 3)
	one, other := p.Packets(), p.Packets()
	spoil(messages(one)...)
	clear(one[:cap(one)])
	for i, want := range []packet{{1, 3}, {2, 6}, {3, 3}} {
		if other[i].ID != want.id || text(other[i].Msg) != text(letter(want.seed)) {
			t.Fatalf("another answer's packet %d is changed", want.id)
		}
	}
	has(t, "an answer spoilt", p, packet{1, 3}, packet{2, 6}, packet{3, 3})
	take(t, p, 3, letter(3))
	take(t, p, 1, letter(3))
}

// What was taken may be written over, and changes no double of it, nor what
// was told.
func TestTakenMessagesAreNewMemory(t *testing.T) {
	p, m := post.New(), letter(7)
	send(t, p, m, 1)
	twice(t, p, 1, 2)
	twice(t, p, 2, 3)
	told := p.Packets()
	for _, id := range []int{2, 1} {
		got, e := p.Take(id)
		is(t, "Take", e, api.OK)
		spoil(got)
		if text(m) != text(letter(7)) {
			t.Fatal("a taken message is the one that was sent")
		}
		for _, s := range told {
			if text(s.Msg) != text(letter(7)) {
				t.Fatalf("packet %d was told, and is changed with %d", s.ID, id)
			}
		}
	}
	twice(t, p, 3, 4)
	has(t, "doubles spoilt", p, packet{3, 7}, packet{4, 7})
}

// Answers stay as they were told, whatever becomes of the post.
func TestAnswersAreNotChanged(t *testing.T) {
	p, want := loaded(t, 8)
	told := p.Packets()
	got, _ := p.Take(2)
	lose(t, p, 5)
	for i := 9; i < 40; i++ {
		send(t, p, letter(i), i)
	}
	for i, w := range want {
		if told[i].ID != w.id || text(told[i].Msg) != text(letter(w.seed)) {
			t.Fatalf("packet %d is told otherwise by now", w.id)
		}
	}
	if text(got) != text(letter(2)) {
		t.Fatal("a taken message is another one by now")
	}
}

// No two lists share memory: of arguments, packets that were told, doubles,
// and what was taken.
func TestListsAreApart(t *testing.T) {
	p, m := post.New(), roomy(7)
	send(t, p, m, 1)
	send(t, p, m, 2)
	twice(t, p, 1, 3)
	twice(t, p, 1, 4)
	all := append(messages(p.Packets()), m)
	all = append(all, messages(p.Packets())...)
	for _, id := range []int{4, 2} {
		got, e := p.Take(id)
		is(t, "Take", e, api.OK)
		all = append(all, got)
	}
	l := reached(all...)
	l.mark()
	if !l.apart() {
		t.Fatal("two lists share memory")
	}
	has(t, "all lists spoilt", p, packet{1, 7}, packet{3, 7})
}
