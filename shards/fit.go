// Package shards has what movers, recoders and calls have in common: a blob's
// shards that are fetched from its nodes, or stored on them.
package shards

import (
	"amphora/api"
	"amphora/stripe"
)

// Fit tells whether a blob of so many bytes may lie on some nodes, by a code:
// whether there is a node for each shard, and each node once.
func Fit(c api.Code, size int, nodes []int) bool {
	fit := stripe.Length(c, size) > 0 && len(nodes) == c.K+c.M
search:
	for i, n := range nodes {
		if !IsNode(n) {
			fit = false
			break search
		}
		for _, ahead := range nodes[:i] {
			if ahead == n { // which is soon so, however long the list is: there are few nodes
				fit = false
				break search
			}
		}
	}
	return fit
}

// IsNode tells whether a number is that of a node.
func IsNode(n int) bool { return n >= 0 && n < api.MaxNodes }

// lies tells whether a message is of a shard of a blob, and from the node on
// which that lies.
func lies(x api.Msg, blob int, nodes []int) bool {
	return x.Blob == blob && x.Index >= 0 && x.Index < len(nodes) && x.From == nodes[x.Index]
}
