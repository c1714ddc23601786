package epoch

import (
	"cmp"
	"maps"
	"slices"
)

// job is what is to be done. Its turn is above those of all that came ahead of
// it.
type job[T any] struct {
	what T
	turn int
}

// inOrder is jobs in the order in which they came.
func inOrder[K comparable, T any](jobs map[K]job[T]) []T {
	var l []T
	byTurn := func(a, b job[T]) int { return cmp.Compare(a.turn, b.turn) }
	for _, j := range slices.SortedFunc(maps.Values(jobs), byTurn) {
		l = append(l, j.what)
	}
	return l
}
