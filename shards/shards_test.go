package shards_test

import (
	"bytes"
	"math"
	"reflect"
	"slices"
	"testing"

	"amphora/api"
	"amphora/shards"
)

func TestIsNode(t *testing.T) {
	for _, n := range []int{math.MinInt, -1, 0, 1, 15, 16, math.MaxInt} {
		if got := shards.IsNode(n); got != (n == 0 || n == 1 || n == 15) {
			t.Errorf("%d: %v", n, got)
		}
	}
}

// All short lists of nodes, for all short codes.
func TestFit(t *testing.T) {
	var goOn func(nodes []int)
	goOn = func(nodes []int) {
		each := slices.Compact(slices.Sorted(slices.Values(nodes)))
		sound := len(each) == len(nodes) && !slices.Contains(nodes, -1) && !slices.Contains(nodes, 16)
		for k := -1; k <= 4; k++ {
			for m := -1; m <= 3; m++ {
				want := sound && k >= 1 && m >= 0 && k+m == len(nodes)
				if got := shards.Fit(api.Code{K: k, M: m}, 20, nodes); got != want {
					t.Fatalf("K %d, M %d on %v: %v", k, m, nodes, got)
				}
			}
		}
		for _, n := range []int{0, 1, 7, 15, -1, 16} {
			if len(nodes) < 4 {
				goOn(append(slices.Clone(nodes), n))
			}
		}
	}
	goOn(nil)
	for size, want := range map[int]bool{-1: false, 0: true, api.MaxBlob: true, api.MaxBlob + 1: false} {
		if got := shards.Fit(api.Code{K: 1}, size, []int{3}); got != want {
			t.Errorf("size %d: %v", size, got)
		}
	}
}

func TestFetch(t *testing.T) {
	b := api.Blob{ID: 7, Size: 20, Code: api.Code{K: 2, M: 1}, Nodes: []int{4, 0, 9}}
	f, ok := shards.NewFetch(b)
	if !ok || f.Length() != 16 || f.Enough() || !reflect.DeepEqual(f.Blob(), b) {
		t.Fatal("another fetch")
	}
	x := api.Msg{Kind: api.MsgFetched, OK: true, Blob: 7, Index: 2, From: 9, Bytes: bytes.Repeat([]byte{1}, 16)}
	if !f.On(x) || f.On(x) || f.Enough() {
		t.Fatal("a shard does not come just once")
	}
	for _, but := range []func(x *api.Msg){
		func(x *api.Msg) { x.Kind = api.MsgStored },
		func(x *api.Msg) { x.OK = false },
		func(x *api.Msg) { x.Blob = 8 },
		func(x *api.Msg) { x.Index = -1 },
		func(x *api.Msg) { x.Index = 3 },
		func(x *api.Msg) { x.From = 4 },
		func(x *api.Msg) { x.Bytes = x.Bytes[:15] },
	} {
		wrong := x
		wrong.Index, wrong.From = 1, 0
		but(&wrong)
		if f.On(wrong) {
			t.Fatalf("a shard came by %+v", wrong)
		}
	}
	want := []api.Msg{
		{Kind: api.MsgFetch, From: 3, To: 4, Blob: 7, Index: 0, Epoch: 8},
		{Kind: api.MsgFetch, From: 3, To: 0, Blob: 7, Index: 1, Epoch: 8},
	}
	if got := f.Asks(3, 8); !reflect.DeepEqual(got, want) {
		t.Fatalf("asks %+v", got)
	}
	x.Index, x.From = 1, 0
	if !f.On(x) || !f.Enough() || len(f.Came()[0]) != 0 || !bytes.Equal(f.Came()[1], x.Bytes) || !bytes.Equal(f.Came()[2], x.Bytes) {
		t.Fatal("two shards are not enough")
	}
	f.Forget()
	if f.Enough() || len(f.Asks(3, 8)) != 3 || !f.On(x) {
		t.Fatal("what is forgotten does not come anew")
	}
	b.Code.K = 3
	if f, ok := shards.NewFetch(b); ok || f != nil {
		t.Fatal("a blob that may not be is fetched")
	}
}

func TestStore(t *testing.T) {
	s := shards.NewStore(7, []int{4, 0}, [][]byte{[]byte("abcd"), []byte("efgh")})
	want := []api.Msg{
		{Kind: api.MsgStore, From: 3, To: 4, Blob: 7, Index: 0, Epoch: 8, Bytes: []byte("abcd")},
		{Kind: api.MsgStore, From: 3, To: 0, Blob: 7, Index: 1, Epoch: 8, Bytes: []byte("efgh")},
	}
	if got := s.Asks(3, 8); !reflect.DeepEqual(got, want) || s.Done() {
		t.Fatalf("asks %+v", got)
	}
	x := api.Msg{Kind: api.MsgStored, Blob: 7, Index: 1, From: 0}
	if s.On(x) || !s.Refused(x) {
		t.Fatal("a store that is refused is done")
	}
	x.OK = true
	if s.Refused(x) || !s.On(x) || s.On(x) || s.Done() || !reflect.DeepEqual(s.Asks(3, 8), want[:1]) {
		t.Fatal("a shard is not stored just once")
	}
	if x.OK = false; s.Refused(x) {
		t.Fatal("a shard is refused that is stored")
	}
	x.OK = true
	x.Index, x.From = 0, 4
	if !s.On(x) || !s.Done() || len(s.Asks(3, 8)) != 0 {
		t.Fatal("not all are stored")
	}
}

// A store is refused by the answer to it alone.
func TestRefused(t *testing.T) {
	s := shards.NewStore(7, []int{4, 0}, [][]byte{[]byte("abcd"), []byte("efgh")})
	for _, but := range []func(x *api.Msg){
		func(x *api.Msg) { x.Kind = api.MsgFetched },
		func(x *api.Msg) { x.OK = true },
		func(x *api.Msg) { x.Blob = 8 },
		func(x *api.Msg) { x.Index = -1 },
		func(x *api.Msg) { x.Index = 0 },
		func(x *api.Msg) { x.Index = 2 },
		func(x *api.Msg) { x.From = 4 },
	} {
		x := api.Msg{Kind: api.MsgStored, Blob: 7, Index: 1, From: 0}
		but(&x)
		if s.Refused(x) {
			t.Fatalf("refused by %+v", x)
		}
	}
}
