package history

import (
	"bytes"
	"slices"

	"amphora/api"
)

// right tells whether the calls of a key have an order in which the map gives
// each answer. In an order one put at most and one delete behind it have an
// effect; once it is known which ones, and when, each other call stands for
// itself. A put and a delete behind the journal's end, of which nobody was told
// anything, change nothing: so there always are some.
func right(calls []call, end int) bool {
	get := slices.IndexFunc(calls, readsBytes)
	put := call{Event: api.Event{Kind: api.AskPut}, from: end, to: never}
	if get >= 0 {
		put.Bytes = calls[get].got
	}
	calls = append(calls, put, call{Event: api.Event{Kind: api.AskDelete}, from: end, to: never})
	fits := order(calls,
		pick(calls, api.AskPut, func(c call) bool { return get < 0 || bytes.Equal(c.Bytes, put.Bytes) }),
		pick(calls, api.AskDelete, func(call) bool { return true }))
	for i := range calls {
		if !fits(i) {
			return false
		}
	}
	return true
}

// readsBytes tells whether a call is a get that was told bytes.
func readsBytes(c call) bool { return c.Kind == api.AskGet && c.says == api.SaysOK }

// pick is the place of the call of a kind that has an effect: of the first one
// that was told so, or else of the first one that may have one and was told
// nothing. Whatever fits an effect that a later one has fits this one's: it may
// take place at the same time.
func pick(calls []call, kind int, may func(call) bool) int {
	told := slices.IndexFunc(calls, func(c call) bool { return c.Kind == kind && c.says == api.SaysOK })
	if told >= 0 {
		return told
	}
	return slices.IndexFunc(calls, func(c call) bool { return c.Kind == kind && c.says == 0 && may(c) })
}

// within tells whether a call may take place between two times. A time t is
// behind the journal's lines 0 to t-1, and ahead of the others.
func (c call) within(first, last int) bool { return c.from < last && c.to >= first }

// order is the best one in which just this put and this delete have an effect:
// it tells of each call whether it finds its place there. Calls that miss
// bytes find one the easier the later these are written, and the earlier they
// are erased; so both is done as far as those calls let it which see the bytes.
func order(calls []call, put, erase int) func(i int) bool {
	latest, earliest := calls[put].to, max(calls[put].from, calls[erase].from)
	for _, c := range calls {
		switch {
		case readsBytes(c):
			earliest = max(earliest, c.from)
			fallthrough // it comes behind the put, as one that is there already does
		case c.says == api.SaysThere:
			latest = min(latest, c.to)
		}
	}
	erased := earliest + 1
	written := min(latest, erased) // at the same time it is ahead
	return func(i int) bool {
		c := calls[i]
		switch {
		case i == put:
			return c.within(written, written)
		case i == erase:
			return c.within(erased, erased)
		case c.says == 0:
			return true
		case c.says == api.SaysThere:
			return c.within(written, never)
		case c.says == api.SaysMissing:
			return c.within(0, written) || c.within(erased, never)
		case readsBytes(c):
			return c.within(written, erased) && bytes.Equal(c.got, calls[put].Bytes)
		}
		return false // another put or delete that was told of an effect
	}
}
