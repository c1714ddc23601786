package epoch

import (
	"amphora/api"
)

// nodes is some of all nodes.
type nodes [api.MaxNodes]bool

// firstNodes is so many, from 0 on.
func firstNodes(count int) nodes {
	var set nodes
	for n := range count {
		set[n] = true
	}
	return set
}

// nodesOf is those of a list that has no other numbers.
func nodesOf(list []int) nodes {
	var set nodes
	for _, n := range list {
		set[n] = true
	}
	return set
}

// has tells whether a number, which may be any, is one of theirs.
func (s nodes) has(n int) bool { return n >= 0 && n < len(s) && s[n] }

// rising is their numbers.
func (s nodes) rising() []int {
	var list []int
	for n, in := range s {
		if in {
			list = append(list, n)
		}
	}
	return list
}

// once tells whether no number of a list stands there twice. It is for short
// lists: each is held against all behind it.
func once(list []int) bool {
	for i, n := range list {
		for _, other := range list[i+1:] {
			if n == other {
				return false
			}
		}
	}
	return true
}
