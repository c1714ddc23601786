package lead

import (
	"slices"

	"amphora/api"
)

// nodes is some of all nodes.
type nodes [api.MaxNodes]bool

// isNode tells whether a number is that of a node.
func isNode(n int) bool { return n >= 0 && n < api.MaxNodes }

// has tells whether a number is one of theirs; voters may be any numbers.
func (l nodes) has(n int) bool { return isNode(n) && l[n] }

// majority tells whether more than half of the voters are among them.
func (l nodes) majority(voters ...int) bool {
	each := slices.Compact(slices.Sorted(slices.Values(voters)))
	agree := 0
	for _, v := range each {
		if l.has(v) {
			agree++
		}
	}
	return agree > len(each)-agree
}
