package place

import (
	"container/heap"

	"amphora/api"
)

// nodes is some of all nodes: a list as a set.
type nodes [api.MaxNodes]bool

// nodesOf is those of a list whose other numbers play no part.
func nodesOf(list []int) nodes {
	var set nodes
	for _, n := range list {
		if n >= 0 && n < api.MaxNodes {
			set[n] = true
		}
	}
	return set
}

// lack tells whether a node is none of them.
func (s nodes) lack(node int) bool { return !s[node] }

// rising is their numbers.
func (s nodes) rising() []int {
	var list []int
	for n, in := range s {
		if in {
			list = append(list, n)
		}
	}
	return list
}

// queue is what members are taken off, one by one: whoever takes them need not
// know by what they are ordered.
type queue interface {
	left() int
	take() int // only while one is left
}

// turned is the members of a list, in the order that a seed turns them to.
func turned(list []int, seed int) queue {
	rising := nodesOf(list).rising()
	h := &members{}
	for place, node := range rising {
		heap.Push(h, member{node, load(place, len(rising), seed)})
	}
	return h
}

// load is how many members are taken ahead of the one at a place, of so many.
func load(place, count, seed int) int {
	begin := int(uint64(seed) % uint64(count)) // less than count, so that it fits
	return (place + count - begin) % count
}

// member is a node with its load.
type member struct{ node, load int }

// members is a heap with the least loaded one on top.
type members []member

func (h members) Len() int           { return len(h) }
func (h members) Less(i, j int) bool { return h[i].load < h[j].load }
func (h members) Swap(i, j int)      { h[i], h[j] = h[j], h[i] }

func (h *members) Push(x any) { *h = append(*h, x.(member)) }

func (h *members) Pop() any {
	end := len(*h) - 1
	x := (*h)[end]
	*h = (*h)[:end]
	return x
}

func (h *members) left() int { return h.Len() }

func (h *members) take() int { return heap.Pop(h).(member).node }
