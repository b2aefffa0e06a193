// Package bodies goes through rules' bodies, for all layers.
package bodies

import (
	"iter"

	"harbinger/api"
)

// Levels are more than anything is promised of: what is deeper is within itself, and never ends.
const Levels = 1 << 17

// Parts goes through a node and all that is in it, each ahead of its Subs, and tells each one's level: 1 is that of the node itself. Of a node that never ends it goes on till it is left.
func Parts(n api.Node) iter.Seq2[int, api.Node] {
	return func(yield func(int, api.Node) bool) {
		walk(n, 1, yield)
	}
}

// walk hands the same yield down, as to range over the Subs' parts anew on each level would take as many calls a part as it is deep. It tells whether to go on.
func walk(n api.Node, level int, yield func(int, api.Node) bool) bool {
	if !yield(level, n) {
		return false
	}
	for _, s := range n.Subs {
		if !walk(s, level+1, yield) {
			return false
		}
	}
	return true
}

// Ends: does a node, or is it within itself?
func Ends(n api.Node) bool {
	for level := range Parts(n) {
		if level > Levels {
			return false
		}
	}
	return true
}
