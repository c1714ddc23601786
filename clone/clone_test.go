package clone_test

import (
	"reflect"
	"testing"

	"amphora/api"
	"amphora/clone"
)

func cmd() api.Cmd {
	return api.Cmd{
		ID: 1, Kind: 2, Key: "k", Blob: 3, Other: 4, Index: 5, Node: 6, Size: 7, Sum: 8,
		Code: api.Code{K: 9, M: 10}, Nodes: []int{11, 12},
	}
}

func votes() []api.Vote {
	return []api.Vote{{Slot: 1, Ballot: 2, Cmd: cmd()}, {Slot: 3, Ballot: 4, Cmd: cmd()}}
}

func msg() api.Msg {
	return api.Msg{
		Kind: 1, From: 2, To: 3, Ballot: 4, Slot: 5, Blob: 6, Index: 7, Epoch: 8, ID: 9, OK: true,
		Cmd: cmd(), Votes: votes(), Bytes: []byte{10, 11},
	}
}

// spoil writes over all that a message reaches.
func spoil(m api.Msg) {
	clear(m.Cmd.Nodes[:cap(m.Cmd.Nodes)])
	for _, v := range m.Votes {
		clear(v.Cmd.Nodes[:cap(v.Cmd.Nodes)])
	}
	clear(m.Votes[:cap(m.Votes)])
	clear(m.Bytes[:cap(m.Bytes)])
}

func TestMsg(t *testing.T) {
	m := msg()
	one, other := clone.Msg(m), clone.Msg(m)
	if !reflect.DeepEqual(one, msg()) {
		t.Fatal("a copy is another message")
	}
	spoil(one)
	if !reflect.DeepEqual(m, msg()) || !reflect.DeepEqual(other, msg()) {
		t.Fatal("a copy shares memory")
	}
	spoil(m)
	if !reflect.DeepEqual(other, msg()) {
		t.Fatal("a copy shares memory with its message")
	}
}

func TestEmpty(t *testing.T) {
	if !reflect.DeepEqual(clone.Msg(api.Msg{}), api.Msg{}) {
		t.Error("a copy of a message of noughts is another one")
	}
	if len(clone.Votes(nil)) != 0 || len(clone.Cmd(api.Cmd{}).Nodes) != 0 {
		t.Error("a copy of nothing is something")
	}
}

func TestBlobAndRecode(t *testing.T) {
	b := api.Blob{ID: 1, Size: 2, Sum: 3, Code: api.Code{K: 4, M: 5}, Nodes: []int{6, 7}}
	r := api.Recode{Blob: 1, Other: 2, Code: api.Code{K: 3, M: 4}, Nodes: []int{5, 6}}
	one, other := clone.Blob(b), clone.Recode(r)
	if !reflect.DeepEqual(one, b) || !reflect.DeepEqual(other, r) {
		t.Fatal("a copy is another one")
	}
	clear(one.Nodes[:cap(one.Nodes)])
	clear(other.Nodes[:cap(other.Nodes)])
	if b.Nodes[0] != 6 || b.Nodes[1] != 7 || r.Nodes[0] != 5 || r.Nodes[1] != 6 {
		t.Fatal("a copy shares memory")
	}
	if !reflect.DeepEqual(clone.Blob(api.Blob{}), api.Blob{}) || !reflect.DeepEqual(clone.Recode(api.Recode{}), api.Recode{}) {
		t.Error("a copy of noughts is another one")
	}
}
