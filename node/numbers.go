package node

import "amphora/api"

const (
	mostNumbers = 1 << 16 // of a life, one more than there are
	mostLives   = 1 << 38 // so that each number goes over the wire
)

// numbers are those of commands, of which no other node has any, nor this one
// in another life.
type numbers struct {
	life, node int
	drawn      int
}

// next is the number that would be drawn, if there is one.
func (n *numbers) next() (int, bool) {
	count := n.drawn + 1
	if count >= mostNumbers {
		return 0, false
	}
	return (n.life%mostLives*mostNumbers+count)*api.MaxNodes + n.node, true
}

// draw takes a number, if there is one.
func (n *numbers) draw() (int, bool) {
	id, ok := n.next()
	if ok {
		n.drawn++
	}
	return id, ok
}
