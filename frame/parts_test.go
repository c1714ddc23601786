package frame_test

import (
	"bytes"
	"fmt"
	"math"
	"reflect"
	"slices"
	"strings"
	"testing"

	"amphora/api"
	"amphora/frame"
)

// part is a part of a command's or message's bytes.
type part struct {
	name   string
	bytes  []byte
	number bool
}

// digits is a number, highest byte first, in so many bytes.
func digits(n uint64, width int) []byte {
	b := make([]byte, width)
	for i := range b {
		if left := 8 * (width - 1 - i); left < 64 {
			b[i] = byte(n >> left)
		}
	}
	return b
}

// wide is a number in so many bytes, and how many ahead.
func wide(n uint64, width int) []byte { return append([]byte{byte(width)}, digits(n, width)...) }

// narrow is a number in as few bytes as it takes.
func narrow(n uint64) []byte {
	width := 0
	for rest := n; rest > 0; rest >>= 8 {
		width++
	}
	return wide(n, width)
}

// number is a part that is one.
func number(name string, n int) part { return part{name, narrow(uint64(n)), true} }

// text is a length and the bytes.
func text(name string, b []byte) []part {
	return []part{number(name+"'s length", len(b)), {name, slices.Clone(b), false}}
}

// cmdParts is a command by its definition, whether or not it may be.
func cmdParts(c api.Cmd) []part {
	l := []part{
		number("ID", c.ID), number("Kind", c.Kind), number("Blob", c.Blob), number("Other", c.Other), number("Index", c.Index),
		number("Node", c.Node), number("Size", c.Size), number("Sum", int(c.Sum)), number("K", c.Code.K), number("M", c.Code.M),
	}
	l = append(l, text("Key", []byte(c.Key))...)
	l = append(l, number("Nodes' length", len(c.Nodes)))
	for _, n := range c.Nodes {
		l = append(l, number("one of Nodes", n))
	}
	return l
}

// msgParts is a message by its definition, whether or not it may be.
func msgParts(m api.Msg) []part {
	truth := part{"OK", []byte{0}, false}
	if m.OK {
		truth.bytes[0] = 1
	}
	l := []part{
		number("Kind", m.Kind), number("From", m.From), number("To", m.To), number("Ballot", m.Ballot), number("Slot", m.Slot),
		number("Blob", m.Blob), number("Index", m.Index), number("Epoch", m.Epoch), number("ID", m.ID), truth,
	}
	l = append(l, cmdParts(m.Cmd)...)
	l = append(l, number("Votes' length", len(m.Votes)))
	for _, v := range m.Votes {
		l = append(l, number("a vote's Slot", v.Slot), number("a vote's Ballot", v.Ballot))
		l = append(l, cmdParts(v.Cmd)...)
	}
	return append(l, text("Bytes", m.Bytes)...)
}

// flat is parts one behind the other.
func flat(l []part) []byte {
	var b []byte
	for _, p := range l {
		b = append(b, p.bytes...)
	}
	return b
}

// with is parts one behind the other, with other bytes for one of them.
func with(l []part, at int, b []byte) []byte {
	l = slices.Clone(l)
	l[at].bytes = b
	return flat(l)
}

// plainCmd has no list that is empty but not nil, as both mean the same.
func plainCmd(c api.Cmd) api.Cmd {
	if len(c.Nodes) == 0 {
		c.Nodes = nil
	}
	return c
}

// plainMsg has none either.
func plainMsg(m api.Msg) api.Msg {
	m.Cmd = plainCmd(m.Cmd)
	if m.Votes = slices.Clone(m.Votes); len(m.Votes) == 0 {
		m.Votes = nil
	}
	for i := range m.Votes {
		m.Votes[i].Cmd = plainCmd(m.Votes[i].Cmd)
	}
	if len(m.Bytes) == 0 {
		m.Bytes = nil
	}
	return m
}

func sameCmd(a, b api.Cmd) bool { return reflect.DeepEqual(plainCmd(a), plainCmd(b)) }

func sameMsg(a, b api.Msg) bool { return reflect.DeepEqual(plainMsg(a), plainMsg(b)) }

// told is what a test tells of a thing: in letters that can be read, and no
// more than somebody reads.
func told(x any) string {
	s := fmt.Sprintf("%+q", fmt.Sprintf("%+v", x))
	return s[:min(len(s), 400)]
}

// cmdGoes has a command be its bytes, and these the command.
func cmdGoes(t *testing.T, name string, c api.Cmd) {
	t.Helper()
	b, e := frame.Cmd(c)
	if want := flat(cmdParts(c)); e != api.OK || !bytes.Equal(b, want) {
		t.Fatalf("%s: %.200x, error %d, want %.200x", name, b, e, want)
	}
	if back, e := frame.ReadCmd(b); e != api.OK || !sameCmd(back, c) {
		t.Fatalf("%s: back %s, error %d, want %s", name, told(back), e, told(c))
	}
}

// msgGoes has a message be its bytes, and these the message.
func msgGoes(t *testing.T, name string, m api.Msg) {
	t.Helper()
	b, e := frame.Msg(m)
	if want := flat(msgParts(m)); e != api.OK || !bytes.Equal(b, want) {
		t.Fatalf("%s: %.200x, error %d, want %.200x", name, b, e, want)
	}
	if back, e := frame.ReadMsg(b); e != api.OK || !sameMsg(back, m) {
		t.Fatalf("%s: back %s, error %d, want %s", name, told(back), e, told(m))
	}
}

// noCmdBytes has ReadCmd answer nothing, and ErrForm.
func noCmdBytes(t *testing.T, name string, b []byte) {
	t.Helper()
	if c, e := frame.ReadCmd(b); e != api.ErrForm || !sameCmd(c, api.Cmd{}) {
		t.Errorf("%s: %.200x is %s, error %d", name, b, told(c), e)
	}
}

// noMsgBytes has ReadMsg answer nothing, and ErrForm.
func noMsgBytes(t *testing.T, name string, b []byte) {
	t.Helper()
	if m, e := frame.ReadMsg(b); e != api.ErrForm || !sameMsg(m, api.Msg{}) {
		t.Errorf("%s: %.200x is %s, error %d", name, b, told(m), e)
	}
}

// noCmd has a command be none, as bytes too, if its numbers can be written.
func noCmd(t *testing.T, name string, c api.Cmd, written bool) {
	t.Helper()
	if b, e := frame.Cmd(c); e != api.ErrArg || len(b) != 0 {
		t.Errorf("%s: %d bytes, error %d", name, len(b), e)
	}
	if written {
		noCmdBytes(t, name, flat(cmdParts(c)))
	}
}

// noMsg has a message be none, as bytes too, if its numbers can be written.
func noMsg(t *testing.T, name string, m api.Msg, written bool) {
	t.Helper()
	if b, e := frame.Msg(m); e != api.ErrArg || len(b) != 0 {
		t.Errorf("%s: %d bytes, error %d", name, len(b), e)
	}
	if written {
		noMsgBytes(t, name, flat(msgParts(m)))
	}
}

// field is a number of T's, and what it may be.
type field[T any] struct {
	name        string
	least, most int
	at          func(*T) *int
}

// cmdFields is a command's.
func cmdFields() []field[api.Cmd] {
	return []field[api.Cmd]{
		{"ID", 0, 1 << 60, func(c *api.Cmd) *int { return &c.ID }},
		{"Kind", 0, 12, func(c *api.Cmd) *int { return &c.Kind }},
		{"Blob", 0, 1 << 60, func(c *api.Cmd) *int { return &c.Blob }},
		{"Other", 0, 1 << 60, func(c *api.Cmd) *int { return &c.Other }},
		{"Index", 0, 1 << 60, func(c *api.Cmd) *int { return &c.Index }},
		{"Node", 0, 15, func(c *api.Cmd) *int { return &c.Node }},
		{"Size", 0, 1 << 60, func(c *api.Cmd) *int { return &c.Size }},
		{"Code.K", 0, 255, func(c *api.Cmd) *int { return &c.Code.K }},
		{"Code.M", 0, 255, func(c *api.Cmd) *int { return &c.Code.M }},
		{"Nodes[0]", 0, 15, func(c *api.Cmd) *int { return &c.Nodes[0] }},
		{"Nodes' last", 0, 15, func(c *api.Cmd) *int { return &c.Nodes[len(c.Nodes)-1] }},
	}
}

// msgFields is a message's, those of its command and of its votes included.
func msgFields() []field[api.Msg] {
	l := []field[api.Msg]{
		{"Kind", 1, 15, func(m *api.Msg) *int { return &m.Kind }},
		{"From", 0, 15, func(m *api.Msg) *int { return &m.From }},
		{"To", 0, 15, func(m *api.Msg) *int { return &m.To }},
		{"Ballot", 0, 1 << 60, func(m *api.Msg) *int { return &m.Ballot }},
		{"Slot", 0, 1 << 60, func(m *api.Msg) *int { return &m.Slot }},
		{"Blob", 0, 1 << 60, func(m *api.Msg) *int { return &m.Blob }},
		{"Index", 0, 1 << 60, func(m *api.Msg) *int { return &m.Index }},
		{"Epoch", 0, 1 << 60, func(m *api.Msg) *int { return &m.Epoch }},
		{"ID", 0, 1 << 60, func(m *api.Msg) *int { return &m.ID }},
		{"Votes[0].Slot", 0, 1 << 60, func(m *api.Msg) *int { return &m.Votes[0].Slot }},
		{"Votes[0].Ballot", 0, 1 << 60, func(m *api.Msg) *int { return &m.Votes[0].Ballot }},
		{"Votes' last Slot", 0, 1 << 60, func(m *api.Msg) *int { return &m.Votes[len(m.Votes)-1].Slot }},
		{"Votes' last Ballot", 0, 1 << 60, func(m *api.Msg) *int { return &m.Votes[len(m.Votes)-1].Ballot }},
	}
	for _, f := range cmdFields() {
		l = append(l,
			field[api.Msg]{"Cmd." + f.name, f.least, f.most, func(m *api.Msg) *int { return f.at(&m.Cmd) }},
			field[api.Msg]{"Votes[0].Cmd." + f.name, f.least, f.most, func(m *api.Msg) *int { return f.at(&m.Votes[0].Cmd) }},
			field[api.Msg]{"Votes' last Cmd." + f.name, f.least, f.most, func(m *api.Msg) *int { return f.at(&m.Votes[len(m.Votes)-1].Cmd) }})
	}
	return l
}

// inside is numbers that a field may be: its edges, and those of how many
// bytes a number takes.
func inside(least, most int) []int {
	l := []int{least, least + 1, most - 1, most}
	for width := 8; width <= 56; width += 8 {
		l = append(l, 1<<width-1, 1<<width, 1<<width+1, 200<<(width-8))
	}
	return slices.DeleteFunc(l, func(n int) bool { return n < least || n > most })
}

// outside is numbers that a field may not be.
func outside(least, most int) []int {
	l := []int{-1, -2, -256, -1 << 60, math.MinInt, math.MinInt + 1, 0, most + 1, most + 2, most + 256, 1<<60 + 1, 1 << 61, 1 << 62, math.MaxInt}
	return slices.DeleteFunc(l, func(n int) bool { return n >= least && n <= most })
}

// someCmd is a command with something in each part.
func someCmd() api.Cmd {
	return api.Cmd{
		ID: 300, Kind: api.CmdPut, Key: "key", Blob: 1 << 40, Other: 77, Index: 256, Node: 15, Size: 400,
		Sum: 0xdeadbeef, Code: api.Code{K: 2, M: 1}, Nodes: []int{0, 15, 3},
	}
}

// someMsg is a message with something in each part.
func someMsg() api.Msg {
	return api.Msg{
		Kind: api.MsgPromise, From: 1, To: 3, Ballot: 17, Slot: 1 << 33, Blob: 5, Index: 255, Epoch: 65536, ID: 9, OK: true,
		Cmd: someCmd(), Votes: []api.Vote{
			{Slot: 2, Ballot: 500, Cmd: someCmd()},
			{Slot: 0, Ballot: 1 << 60, Cmd: api.Cmd{Kind: api.CmdVoters, Nodes: []int{7}}},
		}, Bytes: []byte{1, 0, 255},
	}
}

// greatestCmd is all parts as great as may be.
func greatestCmd() api.Cmd {
	n := api.MaxNumber
	return api.Cmd{
		ID: n, Kind: 12, Key: strings.Repeat("\xff", 8), Blob: n, Other: n, Index: n, Node: 15, Size: n,
		Sum: math.MaxUint32, Code: api.Code{K: 255, M: 255}, Nodes: slices.Repeat([]int{15}, 255),
	}
}

// greatestMsg is all parts as great as may be.
func greatestMsg() api.Msg {
	n := api.MaxNumber
	return api.Msg{
		Kind: 15, From: 15, To: 15, Ballot: n, Slot: n, Blob: n, Index: n, Epoch: n, ID: n, OK: true,
		Cmd: greatestCmd(), Votes: slices.Repeat([]api.Vote{{Slot: n, Ballot: n, Cmd: greatestCmd()}}, 1000),
		Bytes: bytes.Repeat([]byte{0xff}, 2000),
	}
}
