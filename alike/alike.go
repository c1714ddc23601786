// Package alike holds what api's types hold against each other: they have
// lists, so that the language does not do so as a whole.
package alike

import (
	"bytes"
	"slices"

	"amphora/api"
)

// Cmd tells whether all fields of two commands are the same.
func Cmd(a, b api.Cmd) bool {
	return a.ID == b.ID && a.Kind == b.Kind && a.Key == b.Key &&
		a.Blob == b.Blob && a.Other == b.Other && a.Index == b.Index &&
		a.Node == b.Node && a.Size == b.Size && a.Sum == b.Sum &&
		a.Code == b.Code && slices.Equal(a.Nodes, b.Nodes)
}

// Ask tells it of two calls.
func Ask(a, b api.Ask) bool {
	return a.ID == b.ID && a.Kind == b.Kind && a.Key == b.Key && bytes.Equal(a.Bytes, b.Bytes)
}

// Step tells it of two steps.
func Step(a, b api.Step) bool {
	return a.Kind == b.Kind && a.Node == b.Node && a.N == b.N &&
		Ask(a.Ask, b.Ask) && Cmd(a.Cmd, b.Cmd) &&
		slices.Equal(a.Keep, b.Keep) && a.Torn == b.Torn && a.Bytes == b.Bytes
}
