package codec

import (
	"slices"

	"starfish/api"
	"starfish/config"
	"starfish/field"
	"starfish/local"
	"starfish/mbr"
	"starfish/msr"
	"starfish/points"
	"starfish/reed"
	"starfish/transfer"
	"starfish/welch"
)

// code is one of any kind. The nodes, shares and helps that it is passed are valid, and t is its T.
type code interface {
	Encode(msg []byte) ([][]byte, api.Errno)
	Decode(shares []api.Symbols, t int) ([]byte, []int, api.Errno)
	Help(from, to int, share []byte) []byte
	Repair(to int, helps []api.Symbols, t int) ([]byte, []int, api.Errno)
	Helpers(to int, candidates []int, t int) ([]int, bool)
}

// codeOf returns the code that has this shape. It is valid, so its package has it.
func codeOf(c api.Config, shape config.Shape) code {
	f := field.New()
	switch c.Code {
	case api.MSR:
		made, _ := msr.New(f, c.N, c.K, c.D)
		return products{made, c.D}
	case api.MBR:
		made, _ := mbr.New(f, c.N, c.K, c.D)
		return products{made, c.D}
	case api.Transfer:
		made, _ := transfer.New(f, c.N, c.K)
		return copies{made}
	case api.Local:
		made, _ := local.New(f, c.N, c.K, c.R)
		return words[*local.Code]{made, shape.Tells}
	}
	xs, _ := points.Of(f, c.N)
	made, _ := reed.New(f, xs, c.K)
	return words[ungrouped]{ungrouped{made}, shape.Tells}
}

// words is a code whose messages have a word of one byte for each node, which is its share.
type words[C wordCode] struct {
	code  C
	tells int
}

// wordCode is what finds words and messages; where nodes are in groups, a byte is also found by those of the others of its group.
type wordCode interface {
	Encode(msg []byte) ([]byte, api.Errno)
	Decode(shares []api.Symbols, t int) ([]byte, []int, api.Errno)
	Group(node int) []int
	Near(to int, helps []api.Symbols) (byte, api.Errno)
}

func (w words[C]) Encode(msg []byte) ([][]byte, api.Errno) {
	word, e := w.code.Encode(msg)
	if e != api.OK {
		return nil, e
	}
	var shares [][]byte
	for _, symbol := range word {
		shares = append(shares, []byte{symbol})
	}
	return shares, api.OK
}

func (w words[C]) Decode(shares []api.Symbols, t int) ([]byte, []int, api.Errno) {
	return w.code.Decode(shares, t)
}

func (w words[C]) Help(_, _ int, share []byte) []byte {
	return slices.Clone(share)
}

func (w words[C]) Repair(to int, helps []api.Symbols, t int) ([]byte, []int, api.Errno) {
	if t == 0 {
		if symbol, e := w.code.Near(to, helps); e == api.OK {
			return []byte{symbol}, nil, api.OK
		}
	}
	msg, wrong, e := w.code.Decode(helps, t)
	if e != api.OK {
		return nil, nil, e
	}
	word, _ := w.code.Encode(msg)
	return []byte{word[to]}, wrong, api.OK
}

func (w words[C]) Helpers(to int, candidates []int, t int) ([]int, bool) {
	group := w.code.Group(to)
	if t == 0 && len(group) > 0 && containsAll(candidates, group) {
		return group, true
	}
	return first(candidates, w.tells+2*t)
}

// ungrouped is a code of reed, whose nodes are in no groups.
type ungrouped struct {
	*reed.Code
}

func (u ungrouped) Decode(shares []api.Symbols, t int) ([]byte, []int, api.Errno) {
	var nodes []int
	var ys []byte
	for _, share := range shares {
		nodes, ys = append(nodes, share.Node), append(ys, share.Data[0])
	}
	return welch.Decode(u.Code, nodes, ys, t)
}

func (u ungrouped) Group(int) []int {
	return nil
}

func (u ungrouped) Near(int, []api.Symbols) (byte, api.Errno) {
	return 0, api.ErrFew
}

// products is a code whose shares are products of matrices, and which is repaired by d nodes if none is wrong.
type products struct {
	productCode
	d int
}

// productCode is what the packages of such codes have in common.
type productCode interface {
	Encode(msg []byte) ([][]byte, api.Errno)
	Decode(shares []api.Symbols, t int) ([]byte, []int, api.Errno)
	Help(from, to int, share []byte) (byte, api.Errno)
	Repair(to int, helps []api.Symbols, t int) ([]byte, []int, api.Errno)
}

func (p products) Help(from, to int, share []byte) []byte {
	symbol, _ := p.productCode.Help(from, to, share)
	return []byte{symbol}
}

func (p products) Helpers(_ int, candidates []int, t int) ([]int, bool) {
	return first(candidates, p.d+2*t)
}

// copies is a code of transfer, of which no node can be told to be wrong.
type copies struct {
	*transfer.Code
}

func (c copies) Decode(shares []api.Symbols, _ int) ([]byte, []int, api.Errno) {
	msg, e := c.Code.Decode(shares)
	return msg, nil, e
}

func (c copies) Help(from, to int, share []byte) []byte {
	symbol, _ := c.Code.Help(from, to, share)
	return []byte{symbol}
}

func (c copies) Repair(to int, helps []api.Symbols, _ int) ([]byte, []int, api.Errno) {
	share, e := c.Code.Repair(to, helps)
	return share, nil, e
}

func (c copies) Helpers(_ int, candidates []int, _ int) ([]int, bool) {
	return first(candidates, c.Alpha()) // a byte of a share for each other node
}

// first returns the first count of these nodes; false if there are not as many.
func first(candidates []int, count int) ([]int, bool) {
	if len(candidates) < count {
		return nil, false
	}
	return candidates[:count], true
}

// containsAll reports whether all nodes of a group are among these.
func containsAll(candidates, group []int) bool {
	return !slices.ContainsFunc(group, func(node int) bool { return !slices.Contains(candidates, node) })
}
