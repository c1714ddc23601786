package desk

import "amphora/api"

// first is the first word of a script.
const first = "cluster"

// kinds is what a line's first word says: the kinds of the step, and of its
// call or its command.
type kinds struct{ step, ask, cmd int }

// verb is such a word.
type verb struct {
	word  string
	kinds kinds
}

func verbs() []verb {
	return []verb{
		{"put", kinds{api.StepAsk, api.AskPut, 0}},
		{"get", kinds{api.StepAsk, api.AskGet, 0}},
		{"delete", kinds{api.StepAsk, api.AskDelete, 0}},
		{"move", kinds{api.StepAdmin, 0, api.CmdMove}},
		{"recode", kinds{api.StepAdmin, 0, api.CmdRecode}},
		{"admit", kinds{api.StepAdmin, 0, api.CmdAdmit}},
		{"retire", kinds{api.StepAdmin, 0, api.CmdRetire}},
		{"fail", kinds{api.StepAdmin, 0, api.CmdFail}},
		{"voters", kinds{api.StepAdmin, 0, api.CmdVoters}},
		{"width", kinds{api.StepAdmin, 0, api.CmdWidth}},
		{"deliver", kinds{api.StepDeliver, 0, 0}},
		{"lose", kinds{api.StepLose, 0, 0}},
		{"twice", kinds{api.StepTwice, 0, 0}},
		{"settle", kinds{api.StepSettle, 0, 0}},
		{"tick", kinds{api.StepTick, 0, 0}},
		{"start", kinds{api.StepStart, 0, 0}},
		{"dead", kinds{api.StepFail, 0, 0}},
		{"crash", kinds{api.StepCrash, 0, 0}},
	}
}

// kindsOf is what a word says; false, if it is none of these.
func kindsOf(word string) (kinds, bool) {
	for _, v := range verbs() {
		if v.word == word {
			return v.kinds, true
		}
	}
	return kinds{}, false
}

// wordOf is the word for a step's kinds; empty, if there is none.
func wordOf(s api.Step) string {
	for _, v := range verbs() {
		if v.kinds == (kinds{s.Kind, s.Ask.Kind, s.Cmd.Kind}) {
			return v.word
		}
	}
	return ""
}

// hand goes through the words behind a line's first one, of which each is a
// field: a reader has it be what the word says, a writer tells the word.
type hand interface {
	number(field *int)
	key(field *string)
	bytes(field *[]byte)
	numbers(field *[]int, least int) // to the line's end
}

// sizes hands on the fields of a size's line, in their order.
func sizes(s *api.Setup, h hand) {
	h.number(&s.Nodes)
	h.number(&s.Voters)
	h.number(&s.Sectors)
	code(&s.Code, h)
}

// fields hands on those of a line of the step's kinds.
func fields(s *api.Step, h hand) {
	switch s.Kind {
	case api.StepDeliver, api.StepLose, api.StepTwice, api.StepSettle:
		h.number(&s.N)
		return
	}
	h.number(&s.Node)
	switch s.Kind {
	case api.StepAsk:
		call(&s.Ask, h)
	case api.StepAdmin:
		command(&s.Cmd, h)
	case api.StepCrash:
		h.number(&s.Torn)
		h.number(&s.Bytes)
		h.numbers(&s.Keep, 0)
	}
}

func call(a *api.Ask, h hand) {
	h.key(&a.Key)
	if a.Kind == api.AskPut {
		h.bytes(&a.Bytes)
	}
}

func command(c *api.Cmd, h hand) {
	switch c.Kind {
	case api.CmdMove:
		h.key(&c.Key)
		h.number(&c.Index)
		h.number(&c.Node)
	case api.CmdRecode:
		h.key(&c.Key)
		code(&c.Code, h)
	case api.CmdAdmit, api.CmdRetire, api.CmdFail:
		h.number(&c.Node)
	case api.CmdVoters:
		h.numbers(&c.Nodes, 1)
	case api.CmdWidth:
		code(&c.Code, h)
	}
}

func code(c *api.Code, h hand) {
	h.number(&c.K)
	h.number(&c.M)
}
