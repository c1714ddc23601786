package epoch

import (
	"slices"

	"amphora/api"
	"amphora/clone"
	"amphora/keys"
)

func (s *State) put(c api.Cmd) api.Out {
	if c.ID <= 0 || !keys.Is(c.Key) || !s.fit(c.Code, c.Nodes) || c.Size < 0 || c.Size > api.MaxBlob {
		return refused()
	}
	if _, ok := s.keys[c.Key]; ok {
		return api.Out{Kind: api.OutThere}
	}
	b := api.Blob{ID: c.ID, Size: c.Size, Sum: c.Sum, Code: c.Code, Nodes: slices.Clone(c.Nodes)}
	s.keys[c.Key] = c.ID
	s.blobs[c.ID] = blob{b, c.Key, nodesOf(c.Nodes)}
	return api.Out{Kind: api.OutDone, Blob: clone.Blob(b)}
}

func (s *State) get(c api.Cmd) api.Out {
	b, ok := s.Blob(c.Key)
	if !ok {
		return api.Out{Kind: api.OutMissing}
	}
	return api.Out{Kind: api.OutDone, Blob: b, Epoch: s.epoch}
}

func (s *State) remove(c api.Cmd) api.Out {
	b, ok := s.blobs[s.keys[c.Key]]
	if !ok {
		return api.Out{Kind: api.OutMissing}
	}
	s.keys[c.Key] = 0
	delete(s.blobs, b.ID)
	delete(s.recodes, b.ID)
	for index := range b.Nodes {
		delete(s.moves, shard{b.ID, index})
	}
	return done()
}

func (s *State) move(c api.Cmd) api.Out {
	b, ok := s.blobs[c.Blob]
	if !ok || c.Index < 0 || c.Index >= len(b.Nodes) || s.noMember(c.Node) || b.had.has(c.Node) {
		return refused()
	}
	if s.moving(b.ID, c.Index) || s.recoding(b.ID) {
		return refused()
	}
	s.addMove(b, c.Index, c.Node)
	return done()
}

// moving tells whether a shard has a move.
func (s *State) moving(id, index int) bool {
	_, ok := s.moves[shard{id, index}]
	return ok
}

// recoding tells whether a blob has a recode.
func (s *State) recoding(id int) bool {
	_, ok := s.recodes[id]
	return ok
}

// addMove has a shard that has no move be moved: from now on its blob had the
// node, whatever becomes of the move.
func (s *State) addMove(b blob, index, node int) {
	s.turn++
	s.moves[shard{b.ID, index}] = job[api.Move]{api.Move{Blob: b.ID, Index: index, Node: node}, s.turn}
	b.had[node] = true
	s.blobs[b.ID] = b
}

func (s *State) change(c api.Cmd) api.Out {
	at := shard{c.Blob, c.Index}
	j, ok := s.moves[at]
	if !ok || j.what.Node != c.Node {
		return refused()
	}
	delete(s.moves, at)
	b := s.blobs[c.Blob]
	b.Nodes = slices.Clone(b.Nodes)
	b.Nodes[c.Index] = c.Node
	s.blobs[c.Blob] = b
	return s.renewed()
}

func (s *State) recode(c api.Cmd) api.Out {
	b, ok := s.blobs[c.Blob]
	if c.ID <= 0 || !ok || s.recoding(b.ID) || !s.fit(c.Code, c.Nodes) {
		return refused()
	}
	for index := range b.Nodes {
		if s.moving(b.ID, index) {
			return refused()
		}
	}
	s.turn++
	r := api.Recode{Blob: b.ID, Other: c.ID, Code: c.Code, Nodes: slices.Clone(c.Nodes)}
	s.recodes[b.ID] = job[api.Recode]{r, s.turn}
	return done()
}

func (s *State) recast(c api.Cmd) api.Out {
	j, ok := s.recodes[c.Blob]
	if !ok || j.what.Other != c.Other {
		return refused()
	}
	delete(s.recodes, c.Blob)
	b, r := s.blobs[c.Blob], j.what
	delete(s.blobs, c.Blob)
	b.ID, b.Code, b.Nodes, b.had = r.Other, r.Code, r.Nodes, nodesOf(r.Nodes)
	s.keys[b.key] = b.ID
	s.blobs[b.ID] = b
	return s.renewed()
}
