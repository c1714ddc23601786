package desk

import (
	"errors"
	"strings"

	"amphora/api"
)

// Parse is a script's size and steps.
func Parse(script string) (api.Setup, []api.Step, error) {
	var size api.Setup
	var steps []api.Step
	err := attempt(func() { size, steps = (&reader{}).script(script) })
	var fault api.Fault
	if errors.As(err, &fault) {
		return api.Setup{}, nil, fault
	}
	return size, steps, nil
}

// stepOf is the step of one line alone; false, if it is none.
func stepOf(line string) (s api.Step, ok bool) {
	r := &reader{}
	err := attempt(func() {
		r.need(!strings.Contains(line, "\n"), api.ErrScript)
		r.turn(1, line)
		s = r.step()
	})
	return s, err == nil
}

// attempt is the fault at which reading gives up; nil, if it does not.
func attempt(read func()) (err error) {
	defer func() {
		if e, ok := recover().(error); ok {
			err = e
		}
	}()
	read()
	return nil
}

// script reads all lines, of which the first one with words is the size's.
func (r *reader) script(text string) (size api.Setup, steps []api.Step) {
	r.at = 1
	r.need(len(text) <= api.MaxText, api.ErrFull)
	sized := false
	for i, line := range strings.Split(text, "\n") {
		if !r.turn(i+1, line) {
			continue
		}
		if !sized {
			size, sized = r.size(), true
			continue
		}
		s := r.step()
		r.need(len(steps) < api.MaxSteps, api.ErrFull)
		steps = append(steps, s)
	}
	r.at = 1
	r.need(sized, api.ErrScript)
	return size, steps
}

// size reads the first line.
func (r *reader) size() api.Setup {
	r.need(r.word() == first, api.ErrScript)
	var s api.Setup
	sizes(&s, r)
	r.end()
	return s
}

// step reads any other one.
func (r *reader) step() api.Step {
	k, ok := kindsOf(r.word())
	r.need(ok, api.ErrScript)
	s := api.Step{Kind: k.step, Ask: api.Ask{Kind: k.ask}, Cmd: api.Cmd{Kind: k.cmd}}
	fields(&s, r)
	r.end()
	return s
}
