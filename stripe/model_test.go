package stripe_test

import (
	"bytes"
	"math"
	"slices"
	"testing"

	"starfish/api"
	"starfish/codec"
	"starfish/config"
	"starfish/stripe"
)

// model is what a code does for whole values, by the definitions; what is wrong it finds by leaving out all choices of nodes, with a codec of T 0.
type model struct {
	api.Config
	shape        config.Shape
	codec, plain *codec.Codec
}

// modelOf returns that of a valid code.
func modelOf(t testing.TB, c api.Config) *model {
	t.Helper()
	shape, _ := config.Check(c)
	x, e := codec.New(c)
	if e != api.OK {
		t.Fatalf("%v is not valid", c)
	}
	c.T = 0
	plain, _ := codec.New(c)
	return &model{x.Config(), shape, x, plain}
}

// packed are the stripes of a value, one after the other.
func (m *model) packed(value []byte) []byte {
	b := append([]byte{0, 0, byte(len(value) / 256), byte(len(value) % 256)}, value...)
	for len(b)%m.shape.B != 0 {
		b = append(b, 0)
	}
	return b
}

// rowsOf are those of stripes, whether of a value or not.
func (m *model) rowsOf(packed []byte) [][]byte {
	rows := make([][]byte, m.N)
	for msg := range slices.Chunk(packed, m.shape.B) {
		shares, e := m.codec.Encode(msg)
		if e != api.OK {
			panic("no message")
		}
		for node := range rows {
			rows[node] = append(rows[node], shares[node]...)
		}
	}
	return rows
}

// rows are those of a value.
func (m *model) rows(value []byte) [][]byte { return m.rowsOf(m.packed(value)) }

// help is what a node sends, by the codec.
func (m *model) help(from, to int, row []byte) (out []byte) {
	for share := range slices.Chunk(row, m.shape.Alpha) {
		help, e := m.codec.Help(from, to, share)
		if e != api.OK {
			panic("no help")
		}
		out = append(out, help...)
	}
	return out
}

// even returns the symbols with their length: of the multiples of size bytes, up to those of the largest value, the first that most of them have.
func (m *model) even(all []api.Symbols, size int) ([]api.Symbols, bool) {
	best, most := 0, 0
	stripes := len(m.packed(make([]byte, 4096))) / m.shape.B
	for length := size; length <= stripes*size; length += size {
		count := 0
		for _, one := range all {
			if len(one.Data) == length {
				count++
			}
		}
		if count > most {
			best, most = length, count
		}
	}
	var out []api.Symbols
	for _, one := range all {
		data := make([]byte, best)
		if len(one.Data) == best {
			copy(data, one.Data)
		}
		out = append(out, symbol(one.Node, data...))
	}
	return out, most > 0
}

// valid returns the symbols with their length, unless they are not from different nodes, or are from one that is out.
func (m *model) valid(all []api.Symbols, size, out int) ([]api.Symbols, bool) {
	for i, one := range all {
		if one.Node < 0 || one.Node >= m.N || one.Node == out || slices.ContainsFunc(all[:i], func(s api.Symbols) bool { return s.Node == one.Node }) {
			return nil, false
		}
	}
	return m.even(all, size)
}

// nearest finds by trying which symbols to leave out, the fewest first, what one says of all others, stripe by stripe.
func (m *model) nearest(all []api.Symbols, size int, one func(parts []api.Symbols) ([]byte, api.Errno)) ([]byte, []int, api.Errno) {
	for count := range m.T + 1 {
	next:
		for _, out := range choices(len(all), count) {
			var said []byte
			for at := 0; at < len(all[0].Data); at += size {
				var parts []api.Symbols
				for i, s := range all {
					if !slices.Contains(out, i) {
						parts = append(parts, symbol(s.Node, s.Data[at:at+size]...))
					}
				}
				b, e := one(parts)
				if e != api.OK {
					continue next
				}
				said = append(said, b...)
			}
			return said, nodesAt(all, out), api.OK
		}
	}
	return nil, nil, api.ErrLost
}

// messages are those of all stripes for rows.
func (m *model) messages(rows []api.Symbols, out int) ([]byte, []int, api.Errno) {
	rows, ok := m.valid(rows, m.shape.Alpha, out)
	if !ok {
		return nil, nil, api.ErrArg
	}
	if len(rows) < m.shape.Tells+2*m.T {
		return nil, nil, api.ErrFew
	}
	return m.nearest(rows, m.shape.Alpha, func(parts []api.Symbols) ([]byte, api.Errno) {
		msg, _, e := m.plain.Decode(parts)
		return msg, e
	})
}

// join is the result of Join.
func (m *model) join(_ int, rows []api.Symbols) ([]byte, []int, api.Errno) {
	msgs, wrong, e := m.messages(rows, -1)
	if e != api.OK {
		return nil, nil, e
	}
	for size := 0; size <= 4096 && 4+size <= len(msgs); size++ {
		if value := msgs[4 : 4+size]; bytes.Equal(m.packed(value), msgs) {
			return value, wrong, api.OK
		}
	}
	return nil, nil, api.ErrWrong
}

// remake is the result of Remake.
func (m *model) remake(to int, rows []api.Symbols) ([]byte, []int, api.Errno) {
	if to < 0 || to >= m.N {
		return nil, nil, api.ErrArg
	}
	msgs, wrong, e := m.messages(rows, to)
	if e != api.OK {
		return nil, nil, e
	}
	return m.rowsOf(msgs)[to], wrong, api.OK
}

// repair is the result of Repair.
func (m *model) repair(to int, helps []api.Symbols) ([]byte, []int, api.Errno) {
	if to < 0 || to >= m.N {
		return nil, nil, api.ErrArg
	}
	helps, ok := m.valid(helps, 1, to)
	switch {
	case !ok:
		return nil, nil, api.ErrArg
	case m.groupOf(to, helps):
	case len(helps) < m.needs():
		return nil, nil, api.ErrFew
	case m.Code == 5 || m.Code == 1:
		return m.remake(to, helps)
	}
	return m.nearest(helps, 1, func(parts []api.Symbols) ([]byte, api.Errno) {
		share, _, e := m.plain.Repair(to, parts)
		return share, e
	})
}

// groupOf reports whether all others of a group are there, which repair a node.
func (m *model) groupOf(to int, helps []api.Symbols) bool {
	count := 0
	for _, one := range helps {
		if m.Code == 5 && m.T == 0 && one.Node/(m.R+1) == to/(m.R+1) {
			count++
		}
	}
	return count > 0 && count == m.R
}

// needs is how many nodes must send something, but for a group.
func (m *model) needs() int {
	return map[uint8]int{1: m.K, 2: m.D, 3: m.D, 4: m.N - 1, 5: m.shape.Tells}[m.Code] + 2*m.T
}

// call is one that makes something of what nodes have, or send, and tells which were wrong.
type call struct {
	name  string
	made  func(c *stripe.Code, to int, all []api.Symbols) ([]byte, []int, api.Errno)
	model func(m *model, to int, all []api.Symbols) ([]byte, []int, api.Errno)
	given func(m *model, to int, rows [][]byte) []api.Symbols // of all nodes that may be there
	want  func(to int, value []byte, rows [][]byte) []byte
	size  func(m *model) int // of the bytes for a stripe
	needs func(m *model) int // nodes
}

// calls are all such calls.
var calls = []call{
	{
		"Join",
		func(c *stripe.Code, _ int, all []api.Symbols) ([]byte, []int, api.Errno) { return c.Join(all) },
		(*model).join,
		func(m *model, _ int, rows [][]byte) []api.Symbols { return picked(rows, upTo(m.N)) },
		func(_ int, value []byte, _ [][]byte) []byte { return value },
		func(m *model) int { return m.shape.Alpha },
		func(m *model) int { return m.shape.Tells + 2*m.T },
	},
	{
		"Remake",
		(*stripe.Code).Remake,
		(*model).remake,
		func(m *model, to int, rows [][]byte) []api.Symbols { return picked(rows, besides(upTo(m.N), to)) },
		func(to int, _ []byte, rows [][]byte) []byte { return rows[to] },
		func(m *model) int { return m.shape.Alpha },
		func(m *model) int { return m.shape.Tells + 2*m.T },
	},
	{
		"Repair",
		(*stripe.Code).Repair,
		(*model).repair,
		func(m *model, to int, rows [][]byte) (out []api.Symbols) {
			for _, from := range besides(upTo(m.N), to) {
				out = append(out, symbol(from, m.help(from, to, rows[from])...))
			}
			return out
		},
		func(to int, _ []byte, rows [][]byte) []byte { return rows[to] },
		func(m *model) int { return 1 },
		(*model).needs,
	},
}

// is reports a result of a call that is not these bytes, and nodes.
func (x call) is(t *testing.T, m *model, c *stripe.Code, to int, all []api.Symbols, want []byte, nodes []int) {
	t.Helper()
	got, wrong, e := x.made(c, to, all)
	if e != api.OK || !bytes.Equal(got, want) || !slices.Equal(wrong, nodes) {
		t.Errorf("%v: %s, %d, of %v: %v, %v, %d, want %v, %v", m.Config, x.name, to, short(all), got, wrong, e, want, nodes)
	}
}

// isNot reports a result of a call that is not this error alone.
func (x call) isNot(t *testing.T, m *model, c *stripe.Code, to int, all []api.Symbols, want api.Errno) {
	t.Helper()
	if got, wrong, e := x.made(c, to, all); e != want || len(got) != 0 || len(wrong) != 0 {
		t.Errorf("%v: %s, %d, of %v: %v, %v, %d, want the error %d", m.Config, x.name, to, short(all), got, wrong, e, want)
	}
}

// asModel reports a result of a call that is not that of the model, and returns the error of that.
func (x call) asModel(t *testing.T, m *model, c *stripe.Code, to int, all []api.Symbols) api.Errno {
	t.Helper()
	want, nodes, e := x.model(m, to, all)
	if e == api.OK {
		x.is(t, m, c, to, all, want, nodes)
	} else {
		x.isNot(t, m, c, to, all, e)
	}
	return e
}

// short are the first ones of many symbols.
func short(all []api.Symbols) []api.Symbols { return all[:min(len(all), 12)] }

// symbol is what a node has, or sends.
func symbol(node int, data ...byte) api.Symbols { return api.Symbols{Node: node, Data: data} }

// picked are the rows of some nodes, in that order.
func picked(rows [][]byte, nodes []int) (out []api.Symbols) {
	for _, node := range nodes {
		out = append(out, symbol(node, bytes.Clone(rows[node])...))
	}
	return out
}

// copied are the same symbols in new memory.
func copied(all []api.Symbols) (out []api.Symbols) {
	for _, s := range all {
		out = append(out, symbol(s.Node, bytes.Clone(s.Data)...))
	}
	return out
}

// ordered are those at some indices, in that order.
func ordered(all []api.Symbols, at []int) (out []api.Symbols) {
	for _, i := range at {
		out = append(out, all[i])
	}
	return copied(out)
}

// nodesAt are the nodes of the symbols at these indices, ascending.
func nodesAt(all []api.Symbols, at []int) (out []int) {
	for _, i := range at {
		out = append(out, all[i].Node)
	}
	slices.Sort(out)
	return out
}

// changed returns the symbols, of which those at some indices are wrong in one of several ways.
func changed(all []api.Symbols, at []int, way int) []api.Symbols {
	out := copied(all)
	for i, index := range at {
		data := out[index].Data
		kept := bytes.Clone(data)
		switch way % 7 {
		case 0: // each byte
			for j, b := range mixed(index+way, len(data)) {
				data[j] ^= b | 1
			}
		case 1: // the last bit
			data[len(data)-1] ^= 1
		case 2: // the first bit
			data[0] ^= 128
		case 3: // one byte, each time another one
			data[(len(data)/max(len(at), 1)*i+way/7)%len(data)] ^= 7
		case 4: // another length
			data = append(data, data...)
		case 5:
			data = data[:len(data)-1-way/7%len(data)]
		case 6:
			data = nil
		}
		if bytes.Equal(make([]byte, len(kept)), kept) && len(data) != len(kept) { // it would count as what it was
			data = bytes.Repeat([]byte{1}, len(kept))
		}
		out[index].Data = data
	}
	return out
}

// choices are all lists of count of the first n numbers, ascending.
func choices(n, count int) [][]int {
	if count == 0 {
		return [][]int{nil}
	}
	var out [][]int
	for last := count - 1; last < n; last++ {
		for _, one := range choices(last, count-1) {
			out = append(out, append(one, last))
		}
	}
	return out
}

// mixed returns n bytes that follow no plain pattern, the same for the same seed.
func mixed(seed, n int) []byte {
	b := make([]byte, n)
	state := uint32(seed)*2654435761 + 1
	for i := range b {
		state = state*1664525 + 1013904223
		b[i] = byte(state >> 24)
	}
	return b
}

// upTo returns the first n numbers.
func upTo(n int) []int {
	out := make([]int, n)
	for i := range out {
		out[i] = i
	}
	return out
}

// shuffled returns the first n numbers, in an order that follows no plain pattern.
func shuffled(seed, n int) []int {
	out := upTo(n)
	for i, b := range mixed(seed, n) {
		j := int(b) % n
		out[i], out[j] = out[j], out[i]
	}
	return out
}

// besides are the numbers but some, in their order.
func besides(numbers []int, some ...int) []int {
	return slices.DeleteFunc(slices.Clone(numbers), func(i int) bool { return slices.Contains(some, i) })
}

// outside are numbers of no node.
func outside(n int) []int {
	return []int{-1, -2, -n, -256, math.MinInt, n, n + 1, 256, 257, 1 << 32, 1<<32 + 1, math.MaxInt}
}

// small are all valid codes of at most 5 nodes, each with one W, and some of each kind with more nodes, and with a greater T.
func small() (out []api.Config) {
	for _, kind := range []uint8{1, 2, 3, 4, 5} {
		for n := range 6 {
			for k := range n {
				for d := range n {
					for r := range n {
						for t := range n {
							c := api.Config{Code: kind, N: n, K: k, D: d, R: r, T: t, W: n}
							if _, e := config.Check(c); e == api.OK {
								out = append(out, c)
							}
						}
					}
				}
			}
		}
	}
	return append(out,
		api.Config{Code: 1, N: 6, K: 3, T: 1, W: 5},
		api.Config{Code: 1, N: 8, K: 3, T: 2, W: 8},
		api.Config{Code: 1, N: 8, K: 1, T: 3, W: 7},
		api.Config{Code: 2, N: 8, K: 3, D: 4, T: 1, W: 6},
		api.Config{Code: 2, N: 8, K: 2, D: 3, T: 2, W: 6},
		api.Config{Code: 3, N: 7, K: 2, D: 3, T: 1, W: 5},
		api.Config{Code: 3, N: 9, K: 2, D: 4, T: 2, W: 7},
		api.Config{Code: 4, N: 6, K: 3, W: 4},
		api.Config{Code: 5, N: 6, K: 2, R: 2, W: 4},
		api.Config{Code: 5, N: 6, K: 2, R: 2, T: 1, W: 6},
		api.Config{Code: 5, N: 9, K: 4, R: 2, W: 8},
		api.Config{Code: 5, N: 9, K: 2, R: 2, T: 3, W: 8},
		api.Config{Code: 5, N: 10, K: 4, R: 4, T: 2, W: 9})
}

// large are codes of each kind with many nodes, and at limits.
func large() []api.Config {
	return []api.Config{
		{Code: 1, N: 255, K: 254, W: 255},
		{Code: 1, N: 255, K: 1, T: 126, W: 254},
		{Code: 1, N: 100, K: 30, T: 20, W: 70},
		{Code: 2, N: 255, K: 2, D: 2, T: 30, W: 199},
		{Code: 2, N: 40, K: 10, D: 20, T: 5, W: 30},
		{Code: 3, N: 255, K: 1, D: 1, T: 126, W: 253},
		{Code: 3, N: 60, K: 8, D: 12, T: 6, W: 40},
		{Code: 4, N: 23, K: 22, W: 23},
		{Code: 4, N: 23, K: 1, W: 1},
		{Code: 5, N: 255, K: 204, R: 4, W: 254},
		{Code: 5, N: 255, K: 2, R: 2, T: 126, W: 255},
		{Code: 5, N: 51, K: 16, R: 16, T: 17, W: 50},
	}
}

// all are small and large ones.
func all() []api.Config { return append(small(), large()...) }

// made returns the code, which must exist.
func made(t testing.TB, c api.Config) *stripe.Code {
	t.Helper()
	x, e := codec.New(c)
	if e != api.OK {
		t.Fatalf("no codec of %v: %d", c, e)
	}
	s, e := stripe.New(x)
	if s == nil || e != api.OK {
		t.Fatalf("no code of %v: %d", c, e)
	}
	return s
}
