package epoch

import (
	"slices"

	"amphora/api"
	"amphora/reed"
)

// Apply applies the next slot's command.
func (s *State) Apply(c api.Cmd) (api.Out, api.Errno) {
	if !s.made() {
		return api.Out{}, api.ErrNil
	}
	out := s.take(c)
	s.slot++
	return out, api.OK
}

// take has a command do what it does, while the next slot is still its own.
func (s *State) take(c api.Cmd) api.Out {
	if _, twice := s.applied[c.ID]; twice {
		return api.Out{Kind: api.OutTwice}
	}
	if c.ID > 0 {
		s.applied[c.ID] = struct{}{}
	}
	do, ok := kinds()[c.Kind]
	if !ok {
		return refused()
	}
	return do(s, c)
}

// kinds is what commands do, by their kinds: a method for each row of the
// chapter's table.
func kinds() map[int]func(*State, api.Cmd) api.Out {
	return map[int]func(*State, api.Cmd) api.Out{
		api.CmdNop:    (*State).nop,
		api.CmdPut:    (*State).put,
		api.CmdGet:    (*State).get,
		api.CmdDelete: (*State).remove,
		api.CmdMove:   (*State).move,
		api.CmdSwitch: (*State).change,
		api.CmdRecode: (*State).recode,
		api.CmdRecast: (*State).recast,
		api.CmdAdmit:  (*State).admit,
		api.CmdRetire: (*State).retire,
		api.CmdFail:   (*State).fail,
		api.CmdVoters: (*State).elect,
		api.CmdWidth:  (*State).widen,
	}
}

func done() api.Out    { return api.Out{Kind: api.OutDone} }
func refused() api.Out { return api.Out{Kind: api.OutRefused} }

// renewed is the outcome of a command that makes an epoch.
func (s *State) renewed() api.Out {
	s.epoch++
	return done()
}

// isNode tells whether a number is that of a node.
func (s *State) isNode(n int) bool { return n >= 0 && n < s.nodes }

// fit tells whether a code may be, and nodes fit it. Their number is asked
// first, so that the list is short from there on.
func (s *State) fit(c api.Code, on []int) bool {
	return reed.Can(c) && len(on) == c.K+c.M && once(on) && !slices.ContainsFunc(on, s.noMember)
}

func (s *State) noMember(n int) bool { return !s.members.has(n) }

func (s *State) nop(api.Cmd) api.Out { return done() }
