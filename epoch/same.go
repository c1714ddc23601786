package epoch

import (
	"maps"
	"slices"

	"amphora/api"
)

// Same tells whether two are the same: whatever is applied to both, they
// answer alike. So what no call tells counts too: keys that are gone, numbers
// of commands, nodes that a blob had.
func (s *State) Same(o *State) bool {
	return s.made() && o.made() && s.sameSetting(o) && s.sameBlobs(o) && s.sameJobs(o) &&
		maps.Equal(s.applied, o.applied)
}

func (s *State) sameSetting(o *State) bool {
	return s.nodes == o.nodes && s.epoch == o.epoch && s.slot == o.slot &&
		s.members == o.members && s.failed == o.failed && s.code == o.code &&
		slices.EqualFunc(s.terms, o.terms, func(a, b term) bool {
			return a.from == b.from && slices.Equal(a.voters, b.voters)
		})
}

func (s *State) sameBlobs(o *State) bool {
	return maps.Equal(s.keys, o.keys) && maps.EqualFunc(s.blobs, o.blobs, func(a, b blob) bool {
		return a.ID == b.ID && a.Size == b.Size && a.Sum == b.Sum && a.Code == b.Code &&
			a.key == b.key && a.had == b.had && slices.Equal(a.Nodes, b.Nodes)
	})
}

// sameJobs goes by the order of the jobs: their turns hang on those that are
// gone too.
func (s *State) sameJobs(o *State) bool {
	return slices.Equal(inOrder(s.moves), inOrder(o.moves)) &&
		slices.EqualFunc(inOrder(s.recodes), inOrder(o.recodes), func(a, b api.Recode) bool {
			return a.Blob == b.Blob && a.Other == b.Other && a.Code == b.Code && slices.Equal(a.Nodes, b.Nodes)
		})
}
