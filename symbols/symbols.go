// Package symbols checks what the nodes of a code have, or send, for codes of all kinds.
package symbols

import (
	"slices"

	"starfish/api"
)

// Valid reports whether each of these is from one of so many nodes, none of them from one of those that are out, none there twice, with so many bytes.
func Valid(all []api.Symbols, nodes, size int, out ...int) bool {
	return AreFrom(all, nodes, out...) && !slices.ContainsFunc(all, func(one api.Symbols) bool { return len(one.Data) != size })
}

// AreFrom reports whether each of these, whatever its bytes, is from one of so many nodes, none of them from one of those that are out, none there twice.
func AreFrom(all []api.Symbols, nodes int, out ...int) bool {
	seen := make([]bool, max(nodes, 0))
	for _, one := range all {
		if !IsNode(one.Node, nodes) || seen[one.Node] || slices.Contains(out, one.Node) {
			return false
		}
		seen[one.Node] = true
	}
	return true
}

// IsNode reports whether this is the number of one of so many nodes.
func IsNode(node, nodes int) bool {
	return node >= 0 && node < nodes
}
