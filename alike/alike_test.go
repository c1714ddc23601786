package alike_test

import (
	"testing"

	"amphora/alike"
	"amphora/api"
)

// step is one that has all fields.
func step() api.Step {
	return api.Step{
		Kind: 1, Node: 2, N: 3,
		Ask: api.Ask{ID: 4, Kind: 5, Key: "a", Bytes: []byte{6, 7}},
		Cmd: api.Cmd{
			ID: 8, Kind: 9, Key: "b", Blob: 10, Other: 11, Index: 12, Node: 13, Size: 14, Sum: 15,
			Code: api.Code{K: 16, M: 17}, Nodes: []int{18, 19},
		},
		Keep: []int{20, 21}, Torn: 22, Bytes: 23,
	}
}

func TestAlike(t *testing.T) {
	if !alike.Step(step(), step()) || !alike.Step(api.Step{}, api.Step{}) {
		t.Fatal("the same steps are not alike")
	}
	if alike.Step(step(), api.Step{}) || alike.Step(api.Step{}, step()) {
		t.Fatal("a step is like one of noughts")
	}
	empty := api.Step{Ask: api.Ask{Bytes: []byte{}}, Cmd: api.Cmd{Nodes: []int{}}, Keep: []int{}}
	if !alike.Step(empty, api.Step{}) {
		t.Fatal("no list is not like an empty one")
	}
}

func TestEachFieldCounts(t *testing.T) {
	for i, turn := range []func(s *api.Step){
		func(s *api.Step) { s.Kind++ }, func(s *api.Step) { s.Node++ }, func(s *api.Step) { s.N++ },
		func(s *api.Step) { s.Torn++ }, func(s *api.Step) { s.Bytes++ },
		func(s *api.Step) { s.Keep[1]++ }, func(s *api.Step) { s.Keep = s.Keep[:1] }, func(s *api.Step) { s.Keep = append(s.Keep, 0) },
		func(s *api.Step) { s.Ask.ID++ }, func(s *api.Step) { s.Ask.Kind++ }, func(s *api.Step) { s.Ask.Key = "A" },
		func(s *api.Step) { s.Ask.Bytes[1]++ }, func(s *api.Step) { s.Ask.Bytes = nil }, func(s *api.Step) { s.Ask.Bytes = append(s.Ask.Bytes, 0) },
		func(s *api.Step) { s.Cmd.ID++ }, func(s *api.Step) { s.Cmd.Kind++ }, func(s *api.Step) { s.Cmd.Key = "" },
		func(s *api.Step) { s.Cmd.Blob++ }, func(s *api.Step) { s.Cmd.Other++ }, func(s *api.Step) { s.Cmd.Index++ },
		func(s *api.Step) { s.Cmd.Node++ }, func(s *api.Step) { s.Cmd.Size++ }, func(s *api.Step) { s.Cmd.Sum++ },
		func(s *api.Step) { s.Cmd.Code.K++ }, func(s *api.Step) { s.Cmd.Code.M++ },
		func(s *api.Step) { s.Cmd.Nodes[0]++ }, func(s *api.Step) { s.Cmd.Nodes = nil }, func(s *api.Step) { s.Cmd.Nodes = append(s.Cmd.Nodes, 0) },
	} {
		other := step()
		turn(&other)
		if alike.Step(step(), other) || alike.Step(other, step()) {
			t.Errorf("turn %d does not count", i)
		}
	}
}
