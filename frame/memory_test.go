package frame_test

import (
	"bytes"
	"reflect"
	"slices"
	"testing"
	"unsafe"

	"amphora/api"
	"amphora/frame"
)

// span is the memory of a list, its room included.
type span struct{ from, to uintptr }

func spanOf[T any](l []T) span {
	from := uintptr(unsafe.Pointer(unsafe.SliceData(l)))
	return span{from, from + uintptr(cap(l))*unsafe.Sizeof(*new(T))}
}

// msgSpans is those of all lists of a message, the votes in room included.
func msgSpans(m api.Msg) []span {
	l := []span{spanOf(m.Cmd.Nodes), spanOf(m.Votes), spanOf(m.Bytes)}
	for _, v := range m.Votes[:cap(m.Votes)] {
		l = append(l, spanOf(v.Cmd.Nodes))
	}
	return l
}

// apart has no two of spans have memory in common.
func apart(t *testing.T, name string, l ...span) {
	t.Helper()
	l = slices.DeleteFunc(slices.Clone(l), func(s span) bool { return s.from == s.to })
	for i, a := range l {
		for _, b := range l[:i] {
			if a.from < b.to && b.from < a.to {
				t.Errorf("%s: lists share memory", name)
			}
		}
	}
}

// room is a list with more behind its end that nobody may change.
func room[T any](l []T, more ...T) []T { return append(slices.Clone(l), more...)[:len(l)] }

// roomyCmd is someCmd with room.
func roomyCmd() api.Cmd {
	c := someCmd()
	c.Nodes = room(c.Nodes, 9, 99, 999)
	return c
}

// roomyMsg is someMsg with room in all its lists.
func roomyMsg() api.Msg {
	m := someMsg()
	m.Cmd = roomyCmd()
	m.Votes = room([]api.Vote{{Slot: 1, Cmd: roomyCmd()}, {Slot: 2, Cmd: roomyCmd()}}, api.Vote{Slot: 3, Cmd: roomyCmd()})
	m.Bytes = room(m.Bytes, 0xa1, 0xa2)
	return m
}

// wholeCmd is a copy of all that a command reaches, its room included.
func wholeCmd(c api.Cmd) api.Cmd {
	c.Nodes = slices.Clone(c.Nodes[:cap(c.Nodes)])
	return c
}

// wholeMsg is a copy of all that a message reaches, its room included.
func wholeMsg(m api.Msg) api.Msg {
	m.Cmd = wholeCmd(m.Cmd)
	m.Votes = slices.Clone(m.Votes[:cap(m.Votes)])
	for i := range m.Votes {
		m.Votes[i].Cmd = wholeCmd(m.Votes[i].Cmd)
	}
	m.Bytes = slices.Clone(m.Bytes[:cap(m.Bytes)])
	return m
}

// calls is each call that is handed bytes; some answer errors, and have to
// leave as much alone.
func calls() map[string]func(b []byte) []span {
	return map[string]func(b []byte) []span{
		"Sum":    func(b []byte) []span { frame.Sum(b); return nil },
		"Wrap":   func(b []byte) []span { f, _ := frame.Wrap(b); return []span{spanOf(f)} },
		"Unwrap": func(b []byte) []span { x, rest, _ := frame.Unwrap(b); return []span{spanOf(x), spanOf(rest)} },
		"ReadCmd": func(b []byte) []span {
			c, _ := frame.ReadCmd(b)
			return []span{spanOf(c.Nodes)}
		},
		"ReadMsg": func(b []byte) []span { m, _ := frame.ReadMsg(b); return msgSpans(m) },
	}
}

func TestBytesAreNotChangedNorShared(t *testing.T) {
	for name, call := range calls() {
		for _, b := range [][]byte{
			framed([]byte("abc")), append(framed([]byte("abc")), 1, 2, 3), turned(framed([]byte("abc")), 4, 1),
			flat(cmdParts(someCmd())), append(flat(cmdParts(someCmd())), 0), flat(msgParts(someMsg())), append(flat(msgParts(someMsg())), 0), {},
		} {
			b = room(b, 0xa1, 0xa2, 0xa3)
			before := slices.Clone(b[:cap(b)])
			one, other := call(b), call(b)
			if !bytes.Equal(b[:cap(b)], before) {
				t.Errorf("%s changes its argument", name)
			}
			apart(t, name, append(append(one, other...), spanOf(b))...)
		}
	}
}

func TestCommandsAndMessagesAreNotChangedNorShared(t *testing.T) {
	for _, kind := range []int{api.CmdPut, -1} {
		c, m := roomyCmd(), roomyMsg()
		c.Kind, m.Votes[1].Cmd.Kind = kind, kind
		cBefore, mBefore := wholeCmd(c), wholeMsg(m)
		one, _ := frame.Cmd(c)
		other, _ := frame.Cmd(c)
		apart(t, "Cmd", spanOf(one), spanOf(other), spanOf(c.Nodes))
		one, _ = frame.Msg(m)
		other, _ = frame.Msg(m)
		apart(t, "Msg", append(msgSpans(m), spanOf(one), spanOf(other))...)
		if !reflect.DeepEqual(wholeCmd(c), cBefore) || !reflect.DeepEqual(wholeMsg(m), mBefore) {
			t.Error("an argument is changed")
		}
	}
}

// What was read stays, whatever becomes of the bytes.
func TestBytesAreNotKept(t *testing.T) {
	b := flat(msgParts(someMsg()))
	m, e := frame.ReadMsg(b)
	clear(b)
	if e != api.OK || !sameMsg(m, someMsg()) {
		t.Errorf("a message changes with its bytes: %s, error %d", told(m), e)
	}
	b = flat(cmdParts(someCmd()))
	c, e := frame.ReadCmd(b)
	clear(b)
	if e != api.OK || !sameCmd(c, someCmd()) {
		t.Errorf("a command changes with its bytes: %s, error %d", told(c), e)
	}
}

// What lies behind the ends of lists does not count.
func TestRoomDoesNotCount(t *testing.T) {
	c, m := roomyCmd(), roomyMsg()
	cmdGoes(t, "room", c)
	msgGoes(t, "room", m)
	c.Nodes, m.Votes, m.Bytes = make([]int, 255, 300), make([]api.Vote, 1000, 1100), make([]byte, 2000, 2100)
	cmdGoes(t, "the longest, with room", c)
	msgGoes(t, "the longest, with room", m)
	f := framed([]byte("abc"))
	refuses(t, "the sum in room", f[:len(f)-1], api.ErrShort)
	b := flat(cmdParts(someCmd()))
	noCmdBytes(t, "the end in room", b[:len(b)-1])
	if b, e := frame.Wrap(make([]byte, 0, 10)); e != api.ErrArg || len(b) != 0 {
		t.Errorf("Wrap counts room: %d bytes, error %d", len(b), e)
	}
}
