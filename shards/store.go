package shards

import (
	"bytes"
	"slices"

	"amphora/api"
)

// Store is a blob's shards on their way to its nodes.
type Store struct {
	blob  int
	nodes []int
	todo  [][]byte // by their places; an empty one is stored
	count int      // how many are not
}

// NewStore is one of which none is stored. There is a shard for each node;
// they are kept, and nobody else may write over them.
func NewStore(blob int, nodes []int, shards [][]byte) *Store {
	return &Store{blob: blob, nodes: slices.Clone(nodes), todo: shards, count: len(shards)}
}

// Done tells whether all are stored.
func (s *Store) Done() bool { return s.count == 0 }

// Asks is a request to each node that did not store its shard.
func (s *Store) Asks(self, epoch int) []api.Msg {
	var asks []api.Msg
	for i, n := range s.nodes {
		if b := s.todo[i]; len(b) > 0 {
			asks = append(asks, api.Msg{Kind: api.MsgStore, From: self, To: n, Blob: s.blob, Index: i, Epoch: epoch, Bytes: bytes.Clone(b)})
		}
	}
	return asks
}

// On hears a message, and tells whether a shard is stored by it.
func (s *Store) On(x api.Msg) bool {
	if !s.waits(x) || !x.OK {
		return false
	}
	s.todo[x.Index] = nil
	s.count--
	return true
}

// Refused tells whether a message says that a node does not store its shard.
func (s *Store) Refused(x api.Msg) bool { return s.waits(x) && !x.OK }

// waits tells whether a message is the answer of a node that did not store its
// shard so far.
func (s *Store) waits(x api.Msg) bool {
	return x.Kind == api.MsgStored && lies(x, s.blob, s.nodes) && len(s.todo[x.Index]) > 0
}
