package post_test

import (
	"fmt"
	"math"
	"slices"
	"testing"

	"amphora/api"
	"amphora/post"
)

// cmd is a command of which each field hangs on the seed.
func cmd(seed, nodes int) api.Cmd {
	c := api.Cmd{
		ID: seed + 1, Kind: seed + 2, Key: fmt.Sprint("key", seed), Blob: seed + 3, Other: seed + 4,
		Index: seed + 5, Node: seed + 6, Size: seed + 7, Sum: uint32(seed + 8), Code: api.Code{K: seed + 9, M: seed + 10},
	}
	for i := range nodes {
		c.Nodes = append(c.Nodes, seed+20+i)
	}
	return c
}

// letter is a message of which each field hangs on the seed, with lists that
// are longer or shorter with it.
func letter(seed int) api.Msg {
	at := 1000 * seed
	m := api.Msg{
		Kind: at + 1, From: at + 2, To: at + 3, Ballot: at + 4, Slot: at + 5,
		Blob: at + 6, Index: at + 7, Epoch: at + 8, ID: at + 9, OK: seed%2 == 1,
		Cmd: cmd(at+100, 1+seed%3),
	}
	for i := range 1 + seed%4 {
		m.Votes = append(m.Votes, api.Vote{Slot: at + 10*i, Ballot: at + 10*i + 1, Cmd: cmd(at+200+50*i, 1+i)})
	}
	for i := range 1 + seed%5 {
		m.Bytes = append(m.Bytes, byte(seed+i))
	}
	return m
}

// text is all of a message; lists that are nil or empty are alike in it.
func text(m api.Msg) string { return fmt.Sprintf("%+v", m) }

// is has a call answer the error.
func is(t *testing.T, name string, e, want api.Errno) {
	t.Helper()
	if e != want {
		t.Fatalf("%s: error %d, want %d", name, e, want)
	}
}

// send has a message have that number.
func send(t *testing.T, p *post.Post, m api.Msg, want int) {
	t.Helper()
	if id, e := p.Send(m); id != want || e != api.OK {
		t.Fatalf("Send: packet %d, error %d, want packet %d", id, e, want)
	}
}

// twice has the double of a packet have that number.
func twice(t *testing.T, p *post.Post, id, want int) {
	t.Helper()
	if other, e := p.Twice(id); other != want || e != api.OK {
		t.Fatalf("Twice(%d): packet %d, error %d, want packet %d", id, other, e, want)
	}
}

// take has a packet be of that message.
func take(t *testing.T, p *post.Post, id int, want api.Msg) {
	t.Helper()
	if m, e := p.Take(id); e != api.OK || text(m) != text(want) {
		t.Fatalf("Take(%d): error %d, message\n%s, want\n%s", id, e, text(m), text(want))
	}
}

// lose has a packet be there.
func lose(t *testing.T, p *post.Post, id int) {
	t.Helper()
	is(t, fmt.Sprintf("Lose(%d)", id), p.Lose(id), api.OK)
}

// absent has a packet not be there.
func absent(t *testing.T, p *post.Post, id int) {
	t.Helper()
	if m, e := p.Take(id); e != api.ErrPacket || text(m) != text(api.Msg{}) {
		t.Fatalf("Take(%d): error %d, message %s", id, e, text(m))
	}
	is(t, fmt.Sprintf("Lose(%d)", id), p.Lose(id), api.ErrPacket)
	if other, e := p.Twice(id); other != 0 || e != api.ErrPacket {
		t.Fatalf("Twice(%d): packet %d, error %d", id, other, e)
	}
}

// packet is one of letter(seed).
type packet struct{ id, seed int }

// numbers is the packets' numbers, for the words of a fault.
func numbers(l []api.Sent) []int {
	var ids []int
	for _, s := range l {
		ids = append(ids, s.ID)
	}
	return ids
}

// has has just these packets be on the way.
func has(t *testing.T, name string, p *post.Post, want ...packet) {
	t.Helper()
	got := p.Packets()
	if len(got) != len(want) {
		t.Fatalf("%s: %d packets, want %d", name, len(got), len(want))
	}
	for i, w := range want {
		if got[i].ID != w.id {
			t.Fatalf("%s: packets %v, want %d at %d", name, numbers(got), w.id, i)
		}
		if text(got[i].Msg) != text(letter(w.seed)) {
			t.Fatalf("%s: packet %d is\n%s, want\n%s", name, w.id, text(got[i].Msg), text(letter(w.seed)))
		}
	}
}

// P9.1: a new post has no packets.
func TestNewHasNone(t *testing.T) {
	p := post.New()
	has(t, "new", p)
	absent(t, p, 1)
	if p == post.New() {
		t.Error("New answers one post twice")
	}
}

// P9.1, P9.2: the chapter's example.
func TestExample(t *testing.T) {
	p := post.New()
	send(t, p, letter(7), 1)
	send(t, p, letter(8), 2)
	twice(t, p, 1, 3)
	has(t, "the example", p, packet{1, 7}, packet{2, 8}, packet{3, 7})
}

// P9.1: packets have the numbers 1, 2, .. and stand by them, also where these
// have more digits.
func TestSendNumbers(t *testing.T) {
	p := post.New()
	var want []packet
	for i := 1; i <= 120; i++ {
		send(t, p, letter(200-i), i)
		want = append(want, packet{i, 200 - i})
		has(t, "sent", p, want...)
	}
	has(t, "told twice", p, want...)
}

// P9.1: a message may be of any kind, and sent more than once.
func TestSendTakesAnyMessage(t *testing.T) {
	p := post.New()
	odd := []api.Msg{
		{},
		{Kind: math.MinInt, From: -1, To: math.MaxInt, Slot: -5, ID: math.MinInt},
		{Cmd: api.Cmd{Nodes: []int{}}, Votes: []api.Vote{}, Bytes: []byte{}},
		{Votes: make([]api.Vote, 3), Bytes: make([]byte, 100000)},
		letter(3),
		letter(3),
	}
	for i, m := range odd {
		send(t, p, m, i+1)
	}
	for i, s := range p.Packets() {
		if s.ID != i+1 || text(s.Msg) != text(odd[i]) {
			t.Fatalf("packet %d at %d is another message", s.ID, i)
		}
	}
	for i, m := range odd {
		take(t, p, i+1, m)
	}
	has(t, "all taken", p)
}

// P9.2: Take tells a packet's message, once.
func TestTake(t *testing.T) {
	p := post.New()
	for i := 1; i <= 4; i++ {
		send(t, p, letter(i), i)
	}
	take(t, p, 3, letter(3))
	has(t, "3 taken", p, packet{1, 1}, packet{2, 2}, packet{4, 4})
	absent(t, p, 3)
	take(t, p, 1, letter(1))
	take(t, p, 4, letter(4))
	has(t, "1, 4 taken", p, packet{2, 2})
	absent(t, p, 1)
	absent(t, p, 4)
	take(t, p, 2, letter(2))
	has(t, "all taken", p)
	absent(t, p, 2)
}

// P9.2: a packet is lost once.
func TestLose(t *testing.T) {
	p := post.New()
	for i := 1; i <= 3; i++ {
		send(t, p, letter(i), i)
	}
	lose(t, p, 2)
	has(t, "2 lost", p, packet{1, 1}, packet{3, 3})
	absent(t, p, 2)
	lose(t, p, 3)
	lose(t, p, 1)
	has(t, "all lost", p)
	absent(t, p, 1)
	absent(t, p, 3)
}

// P9.2: a packet may be doubled twice, and so may its doubles; each of them is
// taken and lost by itself.
func TestTwice(t *testing.T) {
	p := post.New()
	send(t, p, letter(5), 1)
	send(t, p, letter(6), 2)
	twice(t, p, 1, 3)
	twice(t, p, 1, 4)
	twice(t, p, 4, 5)
	has(t, "doubled", p, packet{1, 5}, packet{2, 6}, packet{3, 5}, packet{4, 5}, packet{5, 5})
	take(t, p, 1, letter(5))
	absent(t, p, 1)
	twice(t, p, 3, 6)
	lose(t, p, 4)
	absent(t, p, 4)
	has(t, "two fewer", p, packet{2, 6}, packet{3, 5}, packet{5, 5}, packet{6, 5})
	take(t, p, 6, letter(5))
	take(t, p, 3, letter(5))
	take(t, p, 5, letter(5))
	take(t, p, 2, letter(6))
	has(t, "all taken", p)
}

// P9.1, P9.2: numbers go on, whatever was taken and lost, the last packet and
// all of them included.
func TestNumbersGoOn(t *testing.T) {
	p := post.New()
	send(t, p, letter(1), 1)
	send(t, p, letter(2), 2)
	take(t, p, 2, letter(2))
	send(t, p, letter(3), 3)
	lose(t, p, 3)
	twice(t, p, 1, 4)
	take(t, p, 4, letter(1))
	lose(t, p, 1)
	send(t, p, letter(5), 5)
	has(t, "gone on", p, packet{5, 5})
	for id := range 5 {
		absent(t, p, id)
	}
}

// P9.2: what is not there is refused, and nothing has changed, the next number
// included.
func TestPacketsThatAreNotThere(t *testing.T) {
	p := post.New()
	send(t, p, letter(1), 1)
	send(t, p, letter(2), 2)
	for _, id := range []int{0, -1, -2, 3, 4, 1 << 32, 1<<32 + 1, math.MaxInt, math.MinInt, math.MinInt + 1} {
		absent(t, p, id)
		has(t, "refused", p, packet{1, 1}, packet{2, 2})
	}
	send(t, p, letter(3), 3)
	has(t, "refused, and sent", p, packet{1, 1}, packet{2, 2}, packet{3, 3})
}

// loaded is a post with packets 1 to n, each of letter of its number.
func loaded(t *testing.T, n int) (*post.Post, []packet) {
	t.Helper()
	p := post.New()
	var l []packet
	for i := 1; i <= n; i++ {
		send(t, p, letter(i), i)
		l = append(l, packet{i, i})
	}
	return p, l
}

// full has a post with packet id take no more.
func full(t *testing.T, p *post.Post, id int) {
	t.Helper()
	if n, e := p.Send(letter(1)); n != 0 || e != api.ErrFull {
		t.Fatalf("Send to a full post: packet %d, error %d", n, e)
	}
	if n, e := p.Twice(id); n != 0 || e != api.ErrFull {
		t.Fatalf("Twice at a full post: packet %d, error %d", n, e)
	}
}

// P9.1, P9.2: MaxPackets may be on the way; then Send and Twice change
// nothing, and what is not there is told ahead of that.
func TestFull(t *testing.T) {
	p, want := loaded(t, api.MaxPackets)
	full(t, p, 1)
	full(t, p, api.MaxPackets)
	for _, id := range []int{0, -1, api.MaxPackets + 1, math.MinInt} {
		absent(t, p, id)
	}
	has(t, "full", p, want...)
	take(t, p, 17, letter(17))
	send(t, p, letter(5), api.MaxPackets+1) // no refusal took a number
	full(t, p, 1)
	absent(t, p, 17)
	want = append(slices.DeleteFunc(want, func(w packet) bool { return w.id == 17 }), packet{api.MaxPackets + 1, 5})
	has(t, "full once more", p, want...)
}

// P9.1, P9.2: one fewer than MaxPackets leaves room for one, of Send or Twice.
func TestNearlyFull(t *testing.T) {
	p, want := loaded(t, api.MaxPackets-1)
	send(t, p, letter(9), api.MaxPackets)
	full(t, p, 3)
	has(t, "by Send", p, append(want, packet{api.MaxPackets, 9})...)

	p, want = loaded(t, api.MaxPackets-1)
	twice(t, p, 3, api.MaxPackets)
	full(t, p, 3)
	has(t, "by Twice", p, append(want, packet{api.MaxPackets, 3})...)

	lose(t, p, 3)
	twice(t, p, api.MaxPackets, api.MaxPackets+1)
	full(t, p, 1)
	absent(t, p, 3)
	lose(t, p, 1)
	lose(t, p, 2)
	send(t, p, letter(1), api.MaxPackets+2)
	send(t, p, letter(1), api.MaxPackets+3)
	full(t, p, 4)
}

// P9.1: not how many were ever sent counts, but how many are on the way.
func TestMoreThanMaxPacketsInAll(t *testing.T) {
	p := post.New()
	for i := 1; i <= 2*api.MaxPackets+5; i++ {
		send(t, p, letter(i), i)
		if i%2 == 0 {
			take(t, p, i, letter(i))
		} else {
			lose(t, p, i)
		}
	}
	has(t, "all gone", p)
}

// A post that no call made answers ErrNil, and has no packets.
func TestPostsThatNoCallMade(t *testing.T) {
	for name, p := range map[string]*post.Post{"nil": nil, "plain": {}} {
		for range 2 {
			if id, e := p.Send(letter(1)); id != 0 || e != api.ErrNil {
				t.Errorf("%s: Send: packet %d, error %d", name, id, e)
			}
			for _, id := range []int{1, 0, -1} {
				if m, e := p.Take(id); e != api.ErrNil || text(m) != text(api.Msg{}) {
					t.Errorf("%s: Take(%d): error %d", name, id, e)
				}
				if e := p.Lose(id); e != api.ErrNil {
					t.Errorf("%s: Lose(%d): error %d", name, id, e)
				}
				if other, e := p.Twice(id); other != 0 || e != api.ErrNil {
					t.Errorf("%s: Twice(%d): packet %d, error %d", name, id, other, e)
				}
			}
			if l := p.Packets(); len(l) != 0 {
				t.Errorf("%s: %d packets", name, len(l))
			}
		}
	}
}

// Posts do not know of each other.
func TestPostsAreApart(t *testing.T) {
	p, q := post.New(), post.New()
	send(t, p, letter(1), 1)
	has(t, "the other one", q)
	send(t, q, letter(2), 1)
	send(t, q, letter(3), 2)
	take(t, p, 1, letter(1))
	has(t, "the one", p)
	has(t, "the other one", q, packet{1, 2}, packet{2, 3})
	send(t, p, letter(4), 2)
}
