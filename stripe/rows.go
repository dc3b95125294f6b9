package stripe

import (
	"iter"
	"maps"
	"slices"

	"starfish/api"
	"starfish/codec"
	"starfish/symbols"
)

// reader makes something of what nodes have, or send, for one stripe, and tells which of them are wrong.
type reader func(x *codec.Codec, parts []api.Symbols) ([]byte, []int, api.Errno)

// readAll returns what is made of all stripes, one after the other, and the nodes, ascending, that are wrong in some of them; ErrArg unless what the nodes have is valid, with so many bytes for a stripe, none of it from those that are out; ErrLost if more than T of them are wrong.
func (c *Code) readAll(all []api.Symbols, size int, read reader, out ...int) ([]byte, []int, api.Errno) {
	length, ok := c.lengthOf(all, size)
	if !ok || !symbols.AreFrom(all, c.config.N, out...) {
		return nil, nil, api.ErrArg
	}
	var made []byte
	wrong := wrongNodes{codec: c.codec, most: c.config.T}
	for parts := range stripes(evened(all, length), length/size, cutAll(size)) {
		b, nodes, e := read(wrong.codec, wrong.others(parts))
		if e != api.OK {
			return nil, nil, e
		}
		if !wrong.add(nodes) {
			return nil, nil, api.ErrLost
		}
		made = append(made, b...)
	}
	return made, wrong.nodes, api.OK
}

// isLength reports whether rows, or helps, with so many bytes for a stripe, can have this length.
func (c *Code) isLength(length, size int) bool {
	return length > 0 && length%size == 0 && length/size <= c.Stripes(api.MaxValue)
}

// lengthOf returns the length that most of these have, of those that they can have; the least of several; false if there is none.
func (c *Code) lengthOf(all []api.Symbols, size int) (int, bool) {
	counts := map[int]int{}
	for _, one := range all {
		if c.isLength(len(one.Data), size) {
			counts[len(one.Data)]++
		}
	}
	best := 0 // which none has
	for _, length := range slices.Sorted(maps.Keys(counts)) {
		if counts[length] > counts[best] {
			best = length
		}
	}
	return best, best > 0
}

// evened returns these, of which those with another length are zeros.
func evened(all []api.Symbols, length int) []api.Symbols {
	var out []api.Symbols
	for _, one := range all {
		if len(one.Data) != length {
			one.Data = make([]byte, length)
		}
		out = append(out, one)
	}
	return out
}

// stripes visits the parts that a row of any kind has for each of so many stripes.
func stripes[R any](row R, count int, part func(row R, stripe int) R) iter.Seq[R] {
	return func(yield func(R) bool) {
		for stripe := range count {
			if !yield(part(row, stripe)) {
				return
			}
		}
	}
}

// cut returns what cuts the part of a stripe, of so many bytes, out of a row.
func cut(size int) func([]byte, int) []byte {
	return func(row []byte, stripe int) []byte {
		return row[stripe*size : (stripe+1)*size]
	}
}

// cutAll returns what cuts the parts of a stripe, of so many bytes each, out of the rows of several nodes.
func cutAll(size int) func([]api.Symbols, int) []api.Symbols {
	return func(rows []api.Symbols, stripe int) []api.Symbols {
		var parts []api.Symbols
		for _, row := range rows {
			parts = append(parts, api.Symbols{Node: row.Node, Data: cut(size)(row.Data, stripe)})
		}
		return parts
	}
}
