package epoch

import (
	"maps"
	"slices"

	"amphora/api"
	"amphora/place"
	"amphora/reed"
)

func (s *State) admit(c api.Cmd) api.Out {
	if !s.isNode(c.Node) || s.members.has(c.Node) || s.failed.has(c.Node) {
		return refused()
	}
	s.members[c.Node] = true
	s.rehouse()
	return s.renewed()
}

func (s *State) retire(c api.Cmd) api.Out {
	if s.noMember(c.Node) {
		return refused()
	}
	s.leave(c.Node)
	s.rehouse()
	return s.renewed()
}

func (s *State) fail(c api.Cmd) api.Out {
	if !s.isNode(c.Node) || s.failed.has(c.Node) {
		return refused()
	}
	s.failed[c.Node] = true
	s.leave(c.Node)
	maps.DeleteFunc(s.recodes, func(_ int, j job[api.Recode]) bool { return j.what.Other%api.MaxNodes == c.Node })
	s.rehouse()
	return s.renewed()
}

// leave has a node be no member, and nothing come to it any more.
func (s *State) leave(node int) {
	s.members[node] = false
	maps.DeleteFunc(s.moves, func(_ shard, j job[api.Move]) bool { return j.what.Node == node })
	maps.DeleteFunc(s.recodes, func(_ int, j job[api.Recode]) bool { return slices.Contains(j.what.Nodes, node) })
}

// rehouse has the shards that lie on no member be moved, as far as there are
// spare ones. It is called only where members change, though what it does is
// promised behind each command: any other one puts shards on members alone, and
// takes a move or a recode away only with its blob, or with the shards on
// members; so what found no spare one before would find none behind it.
func (s *State) rehouse() {
	members := s.Members()
	for _, key := range s.Keys() {
		id := s.keys[key]
		if s.recoding(id) {
			continue
		}
		for index, node := range s.blobs[id].Nodes {
			if s.noMember(node) && !s.moving(id, index) {
				s.moveToSpare(members, id, index)
			}
		}
	}
}

// moveToSpare has a shard be moved, if there is a member that its blob never
// had. The seed may wrap round, as place takes it for a number below 2^64.
func (s *State) moveToSpare(members []int, id, index int) {
	b := s.blobs[id]
	if node, e := place.Spare(members, b.had.rising(), id+index); e == api.OK {
		s.addMove(b, index, node)
	}
}

func (s *State) elect(c api.Cmd) api.Out {
	count := len(c.Nodes)
	if count < 1 || count > api.MaxNodes || !once(c.Nodes) || slices.ContainsFunc(c.Nodes, s.failed.has) {
		return refused()
	}
	s.terms = append(s.terms, term{s.slot + api.Alpha, slices.Clone(c.Nodes)})
	return s.renewed()
}

func (s *State) widen(c api.Cmd) api.Out {
	if !reed.Can(c.Code) || c.Code.K+c.Code.M > api.MaxNodes {
		return refused()
	}
	s.code = c.Code
	return s.renewed()
}
