package stripe

import (
	"slices"

	"starfish/api"
	"starfish/codec"
)

// wrongNodes are those that were wrong in some stripe. To find them again in each later one could take hours (seconds a stripe, if half of 255 nodes are wrong), so they are left away then, and as many fewer of the others may be wrong.
type wrongNodes struct {
	codec *codec.Codec // for the others
	most  int          // T of the code
	nodes []int        // ascending
}

// add adds nodes; false if they become too many.
func (w *wrongNodes) add(nodes []int) bool {
	before := len(w.nodes)
	w.nodes = append(w.nodes, nodes...)
	slices.Sort(w.nodes)
	w.nodes = slices.Compact(w.nodes)
	if len(w.nodes) > w.most {
		return false
	}
	if len(w.nodes) > before {
		config := w.codec.Config()
		config.T = max(w.most-len(w.nodes), 1) // with T 0 a node would be repaired within its group, and what others send not be looked at
		w.codec, _ = codec.New(config)         // which is valid, as each code is with T less by one
	}
	return true
}

// others returns the parts of the nodes that are not left away. They are enough for at least one more wrong one, unless T is 1; so none is left away then.
func (w *wrongNodes) others(parts []api.Symbols) []api.Symbols {
	if w.most == 1 {
		return parts
	}
	return slices.DeleteFunc(parts, func(one api.Symbols) bool { return slices.Contains(w.nodes, one.Node) })
}
