package codec_test

import (
	"bytes"
	"math"
	"slices"
	"testing"

	"starfish/api"
	"starfish/codec"
	"starfish/config"
	"starfish/local"
	"starfish/mbr"
	"starfish/msr"
	"starfish/transfer"
)

// products are those of all pairs of elements, made once for all tests; inverses are the elements whose product with one is 1.
var products, inverses = func() (all [256][256]byte, of [256]byte) {
	for a := range all {
		for b := range all {
			all[a][b] = product(byte(a), byte(b))
			if all[a][b] == 1 {
				of[a] = byte(b)
			}
		}
	}
	return all, of
}()

// product multiplies bytes as polynomials, and takes the remainder, as the definition of the field says.
func product(a, b byte) byte {
	rest := 0
	for i := range 8 {
		if b>>i&1 == 1 {
			rest ^= int(a) << i
		}
	}
	for power := 14; power >= 8; power-- {
		if rest>>power&1 == 1 {
			rest ^= 285 << (power - 8)
		}
	}
	return byte(rest)
}

// addTimes adds the product of b and a factor to sum.
func addTimes(sum, b []byte, factor byte) {
	for i := range b {
		sum[i] ^= products[b[i]][factor]
	}
}

// solved returns the only solution of equations in so many unknowns, each row the coefficients and then the sum; false if there is none; it panics if there is more than one.
func solved(rows [][]byte, unknowns int) ([]byte, bool) {
	for col := range unknowns {
		at := slices.IndexFunc(rows[col:], func(row []byte) bool { return row[col] != 0 })
		if at < 0 {
			panic("more than one solution")
		}
		rows[col], rows[col+at] = rows[col+at], rows[col]
		lead := bytes.Clone(rows[col])
		clear(rows[col])
		addTimes(rows[col], lead, inverses[lead[col]])
		for i, row := range rows {
			if i != col && row[col] != 0 {
				addTimes(row, rows[col], row[col])
			}
		}
	}
	var out []byte
	for i, row := range rows {
		if i >= unknowns && row[unknowns] != 0 {
			return nil, false
		}
		if i < unknowns {
			out = append(out, row[unknowns])
		}
	}
	return out, true
}

// model is what a code does, by its chapter: the packages of the others below, and the definition of Reed, its words being values at powers of g.
type model struct {
	api.Config
	shape   config.Shape
	factors [][][]byte // node by node, for each byte of its share, those of the bytes of a message
	local   *local.Code
	help    func(from, to int, share []byte) (byte, api.Errno)
	repair  func(to int, helps []api.Symbols, t int) ([]byte, []int, api.Errno)
}

// models are those that were made for tests so far.
var models = map[api.Config]*model{}

// modelOf returns that of a valid code.
func modelOf(t testing.TB, c api.Config) *model {
	t.Helper()
	shape, e := config.Check(c)
	if e != api.OK {
		t.Fatalf("%v is not valid", c)
	}
	if models[c] == nil {
		models[c] = newModel(c, shape)
	}
	return models[c]
}

// newModel makes that of a valid code, which has this shape.
func newModel(c api.Config, shape config.Shape) *model {
	m := &model{Config: c, shape: shape}
	switch c.Code {
	case 1:
		m.factors = values(c.N, c.K)
	case 2:
		x, _ := msr.New(nil, c.N, c.K, c.D)
		m.factors, m.help, m.repair = units(c.N, x.B(), x.Encode), x.Help, x.Repair
	case 3:
		x, _ := mbr.New(nil, c.N, c.K, c.D)
		m.factors, m.help, m.repair = units(c.N, x.B(), x.Encode), x.Help, x.Repair
	case 4:
		x, _ := transfer.New(nil, c.N, c.K)
		m.factors, m.help = units(c.N, x.B(), x.Encode), x.Help
		m.repair = func(to int, helps []api.Symbols, _ int) ([]byte, []int, api.Errno) {
			share, e := x.Repair(to, helps)
			return share, nil, e
		}
	case 5:
		m.local, _ = local.New(nil, c.N, c.K, c.R)
		m.factors = units(c.N, c.K, func(msg []byte) ([][]byte, api.Errno) {
			word, e := m.local.Encode(msg)
			return column(word), e
		})
	}
	return m
}

// values are the powers up to k of the first n powers of g.
func values(n, k int) (out [][][]byte) {
	point := byte(1)
	for range n {
		row := []byte{1}
		for len(row) < k {
			row = append(row, products[row[len(row)-1]][point])
		}
		out = append(out, [][]byte{row})
		point = products[point][2]
	}
	return out
}

// units are the factors of a code, by the shares of the messages of one 1.
func units(n, b int, encode func(msg []byte) ([][]byte, api.Errno)) [][][]byte {
	out := make([][][]byte, n)
	for i := range b {
		msg := make([]byte, b)
		msg[i] = 1
		all, _ := encode(msg)
		for node, share := range all {
			if i == 0 {
				out[node] = make([][]byte, len(share))
			}
			for at, factor := range share {
				out[node][at] = append(out[node][at], factor)
			}
		}
	}
	return out
}

// column is a list of one byte each.
func column(word []byte) (out [][]byte) {
	for _, b := range word {
		out = append(out, []byte{b})
	}
	return out
}

// grouped reports whether the nodes are in groups that repair each other.
func (m *model) grouped() bool { return m.Code == 5 && m.T == 0 }

// worded reports whether the code is one of words.
func (m *model) worded() bool { return m.Code == 1 || m.Code == 5 }

// enough is how many shares determine a message.
func (m *model) enough() int { return m.shape.Tells + 2*m.T }

// needs is how many nodes must be asked, but for those of a group.
func (m *model) needs() int {
	return map[uint8]int{1: m.enough(), 2: m.D + 2*m.T, 3: m.D + 2*m.T, 4: m.N - 1, 5: m.enough()}[m.Code]
}

// shares are those of a message.
func (m *model) shares(msg []byte) (out [][]byte) {
	for _, rows := range m.factors {
		var share []byte
		for _, row := range rows {
			var sum byte
			for i, factor := range row {
				sum ^= products[msg[i]][factor]
			}
			share = append(share, sum)
		}
		out = append(out, share)
	}
	return out
}

// others are the nodes of the group of one, but itself; none unless it has one.
func (m *model) others(node int) (out []int) {
	for other := range m.N {
		if m.grouped() && other != node && other/(m.R+1) == node/(m.R+1) {
			out = append(out, other)
		}
	}
	return out
}

// helps is what nodes send of these shares to repair one.
func (m *model) helps(to int, shares [][]byte, nodes []int) []api.Symbols {
	var out []api.Symbols
	for _, node := range nodes {
		b := shares[node][0]
		if !m.worded() {
			b, _ = m.help(node, to, shares[node])
		}
		out = append(out, symbol(node, b))
	}
	return out
}

// nearest finds by trying which shares to leave out, the fewest first, the message for which at most T are wrong.
func (m *model) nearest(shares []api.Symbols) (msg []byte, wrong []int, e api.Errno) {
	if len(shares) < m.enough() {
		return nil, nil, api.ErrFew
	}
	for count := range m.T + 1 {
		for _, out := range choices(len(shares), count) {
			var rows [][]byte
			for i, one := range shares {
				for at, row := range m.factors[one.Node] {
					if !slices.Contains(out, i) {
						rows = append(rows, append(bytes.Clone(row), one.Data[at]))
					}
				}
			}
			if msg, ok := solved(rows, m.shape.B); ok {
				return msg, nodesAt(shares, out), api.OK
			}
		}
	}
	return nil, nil, api.ErrLost
}

// repaired is the result of Repair of helps that are valid.
func (m *model) repaired(to int, helps []api.Symbols) ([]byte, []int, api.Errno) {
	if !m.worded() {
		return m.repair(to, helps, m.T)
	}
	if group := m.others(to); len(group) > 0 && len(group) == len(picks(helps, group)) {
		b, e := m.local.Near(to, helps)
		return []byte{b}, nil, e
	}
	msg, wrong, e := m.nearest(helps)
	if e != api.OK {
		return nil, nil, e
	}
	return m.shares(msg)[to], wrong, api.OK
}

// asked is the result of Helpers.
func (m *model) asked(to int, have []int) ([]int, bool) {
	if to < 0 || to >= m.N {
		return nil, false
	}
	var candidates []int
	for node := range m.N {
		if node != to && slices.Contains(have, node) {
			candidates = append(candidates, node)
		}
	}
	if group := m.others(to); len(group) > 0 && len(besides(group, candidates...)) == 0 {
		return group, true
	}
	if len(candidates) < m.needs() {
		return nil, false
	}
	return candidates[:m.needs()], true
}

// picks are those of symbols that are from some nodes.
func picks(symbols []api.Symbols, nodes []int) []api.Symbols {
	return slices.DeleteFunc(slices.Clone(symbols), func(s api.Symbols) bool { return !slices.Contains(nodes, s.Node) })
}

// nodesAt are the nodes of the symbols at these indices, ascending.
func nodesAt(symbols []api.Symbols, at []int) []int {
	var out []int
	for _, i := range at {
		out = append(out, symbols[i].Node)
	}
	slices.Sort(out)
	return out
}

// choices are all lists of count of the first n numbers, ascending.
func choices(n, count int) [][]int {
	if count == 0 {
		return [][]int{nil}
	}
	var out [][]int
	for last := count - 1; last < n; last++ {
		for _, one := range choices(last, count-1) {
			out = append(out, append(one, last))
		}
	}
	return out
}

// some are these choices, or a part of them if they are very many.
func some(choices [][]int) (out [][]int) {
	step := len(choices)/200 + 1
	for i := 0; i < len(choices); i += step {
		out = append(out, choices[i])
	}
	return out
}

// mixed returns n bytes that follow no plain pattern, the same for the same seed.
func mixed(seed, n int) []byte {
	b := make([]byte, n)
	state := uint32(seed)*2654435761 + 1
	for i := range b {
		state = state*1664525 + 1013904223
		b[i] = byte(state >> 24)
	}
	return b
}

// upTo returns the first n numbers.
func upTo(n int) []int {
	out := make([]int, n)
	for i := range out {
		out[i] = i
	}
	return out
}

// shuffled returns the first n numbers, in an order that follows no plain pattern.
func shuffled(seed, n int) []int {
	out := upTo(n)
	for i, b := range mixed(seed, n) {
		j := int(b) % n
		out[i], out[j] = out[j], out[i]
	}
	return out
}

// orders are the first n numbers ascending, descending, and mixed.
func orders(seed, n int) [][]int {
	down := upTo(n)
	slices.Reverse(down)
	return [][]int{upTo(n), down, shuffled(seed, n), shuffled(seed+9, n)}
}

// besides are the numbers but some, in their order.
func besides(numbers []int, some ...int) []int {
	return slices.DeleteFunc(slices.Clone(numbers), func(i int) bool { return slices.Contains(some, i) })
}

// outside are numbers of no node.
func outside(n int) []int {
	return []int{-1, -2, -n, -256, math.MinInt, n, n + 1, 256, 257, 1 << 32, 1<<32 + 1, math.MaxInt}
}

// messages of so many bytes: zeros, only one end that is not, only ones, mixed ones.
func messages(b int) [][]byte {
	first, last := make([]byte, b), make([]byte, b)
	first[0], last[b-1] = 201, 77
	return [][]byte{make([]byte, b), first, last, bytes.Repeat([]byte{1}, b), mixed(b, b), mixed(b+1, b)}
}

// small are all valid codes of at most 7 nodes, each with one W, and some of each kind with more nodes, as with groups of five, and with a greater T.
func small() (out []api.Config) {
	for _, kind := range []uint8{1, 2, 3, 4, 5} {
		for n := range 8 {
			for k := range n {
				for d := range n {
					for r := range n {
						for t := range n {
							for w := n; w > 0; w-- {
								c := api.Config{Code: kind, N: n, K: k, D: d, R: r, T: t, W: w}
								if _, e := config.Check(c); e == api.OK {
									out = append(out, c)
									break
								}
							}
						}
					}
				}
			}
		}
	}
	return append(out,
		api.Config{Code: 1, N: 9, K: 2, T: 3, W: 8},
		api.Config{Code: 1, N: 10, K: 5, T: 2, W: 9},
		api.Config{Code: 2, N: 9, K: 2, D: 4, T: 2, W: 6},
		api.Config{Code: 2, N: 10, K: 3, D: 5, T: 2, W: 7},
		api.Config{Code: 3, N: 9, K: 3, D: 4, T: 2, W: 7},
		api.Config{Code: 3, N: 8, K: 1, D: 1, T: 3, W: 7},
		api.Config{Code: 4, N: 9, K: 4, W: 5},
		api.Config{Code: 5, N: 9, K: 2, R: 2, T: 1, W: 4},
		api.Config{Code: 5, N: 9, K: 4, R: 2, W: 8},
		api.Config{Code: 5, N: 9, K: 2, R: 2, T: 3, W: 8},
		api.Config{Code: 5, N: 10, K: 4, R: 4, T: 1, W: 6},
		api.Config{Code: 5, N: 10, K: 4, R: 4, W: 4})
}

// large are codes of each kind with many nodes, and at limits.
func large() []api.Config {
	return []api.Config{
		{Code: 1, N: 255, K: 254, W: 255},
		{Code: 1, N: 255, K: 2, T: 126, W: 254},
		{Code: 1, N: 100, K: 30, T: 20, W: 70},
		{Code: 2, N: 84, K: 3, D: 5, W: 84},
		{Code: 2, N: 200, K: 2, D: 17, T: 10, W: 199},
		{Code: 2, N: 255, K: 9, D: 16, T: 4, W: 20},
		{Code: 2, N: 40, K: 10, D: 20, T: 5, W: 30},
		{Code: 3, N: 255, K: 1, D: 2, T: 126, W: 253},
		{Code: 3, N: 60, K: 8, D: 12, T: 6, W: 40},
		{Code: 3, N: 32, K: 31, D: 31, W: 31},
		{Code: 4, N: 23, K: 22, W: 23},
		{Code: 4, N: 23, K: 1, W: 1},
		{Code: 5, N: 255, K: 168, R: 2, W: 255},
		{Code: 5, N: 255, K: 2, R: 2, T: 126, W: 255},
		{Code: 5, N: 255, K: 204, R: 4, W: 254},
		{Code: 5, N: 255, K: 254, R: 254, W: 254},
		{Code: 5, N: 51, K: 16, R: 16, T: 17, W: 50},
	}
}

// all are small and large ones.
func all() []api.Config { return append(small(), large()...) }

// symbol is what a node has, or sends.
func symbol(node int, data ...byte) api.Symbols { return api.Symbols{Node: node, Data: data} }

// picked are the shares of some nodes, in that order.
func picked(shares [][]byte, nodes []int) []api.Symbols {
	var out []api.Symbols
	for _, node := range nodes {
		out = append(out, symbol(node, bytes.Clone(shares[node])...))
	}
	return out
}

// copied are the same symbols in new memory.
func copied(symbols []api.Symbols) []api.Symbols {
	var out []api.Symbols
	for _, s := range symbols {
		out = append(out, symbol(s.Node, bytes.Clone(s.Data)...))
	}
	return out
}

// changed returns the symbols, of which those at some indices are wrong in one of several ways.
func changed(symbols []api.Symbols, at []int, way int) []api.Symbols {
	out := copied(symbols)
	for _, index := range at {
		data := out[index].Data
		kept := bytes.Clone(data)
		switch way % 4 {
		case 0: // all of it
			for i := range data {
				data[i] ^= byte(index*7 + i + way + 1)
			}
		case 1: // one bit
			data[way%len(data)] ^= 128
		case 2: // to the same bytes for all
			copy(data, bytes.Repeat([]byte{byte(way)}, len(data)))
		case 3: // to nothing
			clear(data)
		}
		if bytes.Equal(kept, data) {
			data[len(data)-1]++
		}
	}
	return out
}

// made returns the codec, which must exist.
func made(t testing.TB, c api.Config) *codec.Codec {
	t.Helper()
	x, e := codec.New(c)
	if x == nil || e != api.OK {
		t.Fatalf("no codec of %v: %d", c, e)
	}
	return x
}
