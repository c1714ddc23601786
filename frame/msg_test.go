package frame_test

import (
	"bytes"
	"math"
	"slices"
	"strings"
	"testing"

	"amphora/api"
	"amphora/frame"
)

// P5.2
func TestMsgByHand(t *testing.T) {
	noCmd := "\x00\x00\x00\x00\x00\x00\x00\x00\x00\x00\x00\x00"
	for _, x := range []struct {
		m    api.Msg
		want string
	}{
		{api.Msg{Kind: 1}, "\x01\x01\x00\x00\x00\x00\x00\x00\x00\x00\x00" + noCmd + "\x00\x00"},
		{
			api.Msg{Kind: 1, From: 2, To: 3, Ballot: 4, Slot: 5, Blob: 6, Index: 7, Epoch: 8, ID: 300, OK: true, Votes: []api.Vote{{Slot: 10, Ballot: 11}}, Bytes: []byte("xy")},
			"\x01\x01\x01\x02\x01\x03\x01\x04\x01\x05\x01\x06\x01\x07\x01\x08\x02\x01\x2c\x01" + noCmd + "\x01\x01\x01\x0a\x01\x0b" + noCmd + "\x01\x02xy",
		},
		{
			api.Msg{Kind: 15, Cmd: api.Cmd{ID: 1, Key: "k"}, Votes: []api.Vote{{}, {Cmd: api.Cmd{Nodes: []int{1}}}}},
			"\x01\x0f\x00\x00\x00\x00\x00\x00\x00\x00\x00" + "\x01\x01\x00\x00\x00\x00\x00\x00\x00\x00\x00\x01\x01k\x00" + "\x01\x02" +
				"\x00\x00" + noCmd + "\x00\x00" + "\x00\x00\x00\x00\x00\x00\x00\x00\x00\x00\x00\x01\x01\x01\x01" + "\x00",
		},
	} {
		if b, e := frame.Msg(x.m); e != api.OK || string(b) != x.want {
			t.Errorf("%s: %x, error %d, want %x", told(x.m), b, e, x.want)
		}
		if m, e := frame.ReadMsg([]byte(x.want)); e != api.OK || !sameMsg(m, x.m) {
			t.Errorf("%x: %s, error %d, want %s", x.want, told(m), e, told(x.m))
		}
	}
}

// P5.2, P5.3
func TestMsgThereAndBack(t *testing.T) {
	msgGoes(t, "something", someMsg())
	msgGoes(t, "the greatest", greatestMsg())
	for kind := api.MsgPrepare; kind <= api.MsgFenced; kind++ {
		msgGoes(t, "a kind alone", api.Msg{Kind: kind})
		m := someMsg()
		m.Kind, m.OK = kind, !m.OK
		msgGoes(t, "a kind", m)
	}
	for _, length := range []int{0, 1, 2, 255, 256, 257, 999, 1000} {
		m := someMsg()
		m.Votes = make([]api.Vote, length)
		for i := range m.Votes {
			m.Votes[i] = api.Vote{Slot: i, Ballot: length, Cmd: api.Cmd{ID: i * i, Kind: i % 13}}
		}
		msgGoes(t, "votes", m)
	}
	for _, length := range []int{0, 1, 2, 255, 256, 257, 1999, 2000} {
		m := someMsg()
		m.Bytes = scattered(length, 5)
		msgGoes(t, "bytes", m)
		m.Bytes = make([]byte, length)
		msgGoes(t, "noughts", m)
	}
	m := someMsg()
	m.Cmd.Nodes, m.Votes, m.Bytes = []int{}, []api.Vote{}, []byte{}
	msgGoes(t, "empty lists", m)
}

// P5.2, P5.3
func TestMsgAtTheEdgesOfItsNumbers(t *testing.T) {
	for _, f := range msgFields() {
		for _, n := range inside(f.least, f.most) {
			m := someMsg()
			*f.at(&m) = n
			msgGoes(t, f.name, m)
		}
	}
}

// P5.2
func TestMsgThatMayNotBe(t *testing.T) {
	noMsg(t, "nothing", api.Msg{}, true)
	for _, f := range msgFields() {
		for _, n := range outside(f.least, f.most) {
			m := someMsg()
			*f.at(&m) = n
			noMsg(t, f.name, m, n >= 0)
		}
	}
	for _, length := range []int{1001, 1002, 65536} {
		noMsg(t, "many votes", api.Msg{Kind: 1, Votes: make([]api.Vote, length)}, true)
	}
	for _, length := range []int{2001, 2002, 65535, 65536, 1 << 20} {
		noMsg(t, "many bytes", api.Msg{Kind: 1, Bytes: make([]byte, length)}, true)
	}
}

// P5.2: what a command may not be its message and votes may not have.
func TestMsgOfACommandThatMayNotBe(t *testing.T) {
	for _, c := range []api.Cmd{{Key: "ninebytes"}, {Nodes: make([]int, 256)}, {Kind: 13}, {Node: 16}} {
		m := someMsg()
		m.Cmd = c
		noMsg(t, "its command", m, true)
		for i := range someMsg().Votes {
			m := someMsg()
			m.Votes[i].Cmd = c
			noMsg(t, "a vote's command", m, true)
		}
	}
	last := api.Msg{Kind: 2, Votes: make([]api.Vote, 1000)}
	last.Votes[999].Cmd.Kind = -1
	noMsg(t, "the last of many votes", last, false)
}

// P5.2
func TestReadMsgOfBeginningsAndMore(t *testing.T) {
	noMsgBytes(t, "nil", nil)
	noMsgBytes(t, "empty", []byte{})
	for _, m := range []api.Msg{{Kind: 1}, someMsg()} {
		b := flat(msgParts(m))
		for end := range b {
			noMsgBytes(t, "a beginning", b[:end])
		}
		for _, behind := range [][]byte{{0}, {1}, {0xff}, {0, 0}, b} {
			noMsgBytes(t, "bytes behind", joined(b, behind))
		}
		noMsgBytes(t, "bytes ahead", joined([]byte{0}, b))
	}
	long := flat(msgParts(greatestMsg()))
	for _, end := range []int{1, 1000, len(long) / 2, len(long) - 2001, len(long) - 2000, len(long) - 1} {
		noMsgBytes(t, "a long one's beginning", long[:end])
	}
	noMsgBytes(t, "a byte behind a long one", append(long, 0))
}

// P5.2, P5.4
func TestReadMsgOfOtherForms(t *testing.T) {
	for _, m := range []api.Msg{{Kind: 1}, someMsg()} {
		parts := msgParts(m)
		for i, p := range parts {
			if !p.number {
				continue
			}
			for _, other := range otherForms(p.bytes) {
				noMsgBytes(t, p.name, with(parts, i, other))
			}
		}
	}
}

// P5.2, P5.4: a truth is 0 or 1.
func TestReadMsgOfOtherTruths(t *testing.T) {
	parts := msgParts(someMsg())
	at := slices.IndexFunc(parts, func(p part) bool { return p.name == "OK" })
	for x := range 256 {
		b := with(parts, at, []byte{byte(x)})
		if x > 1 {
			noMsgBytes(t, "a truth", b)
		} else if m, e := frame.ReadMsg(b); e != api.OK || m.OK != (x == 1) {
			t.Errorf("a truth of %d: %v, error %d", x, m.OK, e)
		}
	}
}

// P5.2: lengths that tell of another number than there is.
func TestReadMsgOfWrongLengths(t *testing.T) {
	parts := msgParts(someMsg())
	for i, p := range parts {
		if !strings.HasSuffix(p.name, "length") {
			continue
		}
		for _, n := range []uint64{0, 1, 2, 3, 4, 8, 9, 255, 256, 1000, 1001, 2000, 2001, 1 << 31, 1 << 32, 1 << 59, 1 << 60} {
			if other := narrow(n); !bytes.Equal(other, p.bytes) {
				noMsgBytes(t, p.name, with(parts, i, other))
			}
		}
	}
}

// P5.2: huge lengths with nothing behind them end at once.
func TestReadMsgOfHugeLengths(t *testing.T) {
	ahead := flat(msgParts(api.Msg{Kind: 1}))
	ahead = ahead[:len(ahead)-2] // its votes and bytes
	for _, n := range []uint64{1, 1000, 1001, 1 << 31, 1 << 60, 1 << 63, math.MaxUint64} {
		noMsgBytes(t, "votes", joined(ahead, narrow(n)))
		noMsgBytes(t, "bytes", joined(ahead, []byte{0}, narrow(n)))
	}
}

// P5.4
func TestMsgHasOneForm(t *testing.T) {
	read, refused := 0, 0
	for _, m := range []api.Msg{{Kind: 15}, someMsg()} {
		b := flat(msgParts(m))
		variants(b, func(other []byte) {
			n, e := frame.ReadMsg(other)
			if e == api.ErrForm && sameMsg(n, api.Msg{}) {
				refused++
				return
			}
			read++
			if again, f := frame.Msg(n); e != api.OK || f != api.OK || !bytes.Equal(again, other) {
				t.Errorf("%x is read (error %d), and is then %x (error %d)", other, e, again, f)
			}
			if !bytes.Equal(b, other) && sameMsg(m, n) {
				t.Errorf("%x is %x as well", other, b)
			}
		})
	}
	if read == 0 || refused == 0 {
		t.Errorf("%d read, %d refused", read, refused)
	}
}

// P5.2: a command's bytes are no message's, nor the other way round.
func TestCommandsAreNoMessages(t *testing.T) {
	noMsgBytes(t, "a command", flat(cmdParts(someCmd())))
	noCmdBytes(t, "a message", flat(msgParts(someMsg())))
}
