package mbr_test

import (
	"bytes"
	"slices"
	"testing"

	"starfish/api"
	"starfish/field"
	"starfish/mbr"
)

// products are those of all pairs of elements, made once for all tests; inverses are the elements whose product with one is 1.
var products, inverses = func() (all [256][256]byte, of [256]byte) {
	for a := range all {
		for b := range all {
			all[a][b] = product(byte(a), byte(b))
			if all[a][b] == 1 {
				of[a] = byte(b)
			}
		}
	}
	return all, of
}()

// product multiplies bytes as polynomials, and takes the remainder, as the definition of the field says.
func product(a, b byte) byte {
	rest := 0
	for i := range 8 {
		if b>>i&1 == 1 {
			rest ^= int(a) << i
		}
	}
	for power := 14; power >= 8; power-- {
		if rest>>power&1 == 1 {
			rest ^= 285 << (power - 8)
		}
	}
	return byte(rest)
}

// sumOf adds up the products of two lists, index by index.
func sumOf(a, b []byte) byte {
	var sum byte
	for i := range a {
		sum ^= products[a[i]][b[i]]
	}
	return sum
}

// addTimes adds the product of b and a factor to sum.
func addTimes(sum, b []byte, factor byte) {
	for i := range b {
		sum[i] ^= products[b[i]][factor]
	}
}

// solved returns the only solution of equations in so many unknowns, each row the coefficients and then the sum; false if there is none; it panics if there is more than one.
func solved(rows [][]byte, unknowns int) ([]byte, bool) {
	for col := range unknowns {
		at := slices.IndexFunc(rows[col:], func(row []byte) bool { return row[col] != 0 })
		if at < 0 {
			panic("more than one solution")
		}
		rows[col], rows[col+at] = rows[col+at], rows[col]
		lead := bytes.Clone(rows[col])
		clear(rows[col])
		addTimes(rows[col], lead, inverses[lead[col]])
		for i, row := range rows {
			if i != col {
				addTimes(row, rows[col], row[col])
			}
		}
	}
	var out []byte
	for i, row := range rows {
		if i >= unknowns && row[unknowns] != 0 {
			return nil, false
		}
		if i < unknowns {
			out = append(out, row[unknowns])
		}
	}
	return out, true
}

// shape is a code's N, K and D.
type shape struct{ n, k, d int }

func (x shape) b() int { return x.k*x.d - x.k*(x.k-1)/2 }

// psi is the row of the powers of the point of a node.
func (x shape) psi(node int) []byte {
	point, out := byte(1), []byte{1}
	for range node {
		point = products[point][2]
	}
	for len(out) < x.d {
		out = append(out, products[out[len(out)-1]][point])
	}
	return out
}

// matrixOf is that of a message, row by row.
func (x shape) matrixOf(msg []byte) [][]byte {
	m := make([][]byte, x.d)
	for i := range m {
		m[i] = make([]byte, x.d)
	}
	at := 0
	put := func(row, col int) {
		m[row][col], m[col][row] = msg[at], msg[at]
		at++
	}
	for row := range x.k {
		for col := row; col < x.k; col++ {
			put(row, col)
		}
	}
	for row := range x.k {
		for col := x.k; col < x.d; col++ {
			put(row, col)
		}
	}
	return m
}

// times is what nodes store for a matrix, be it symmetric or not.
func (x shape) times(matrix [][]byte) [][]byte {
	var out [][]byte
	for node := range x.n {
		share := make([]byte, x.d)
		for i, factor := range x.psi(node) {
			addTimes(share, matrix[i], factor)
		}
		out = append(out, share)
	}
	return out
}

// shares are those of a message.
func (x shape) shares(msg []byte) [][]byte { return x.times(x.matrixOf(msg)) }

// help is what a node sends to repair another one.
func (x shape) help(to int, share []byte) byte { return sumOf(share, x.psi(to)) }

// helps are what all nodes would send to repair one, for these shares; its own is not used.
func (x shape) helps(to int, shares [][]byte) [][]byte {
	psi := x.psi(to)
	var out [][]byte
	for _, share := range shares {
		out = append(out, []byte{sumOf(share, psi)})
	}
	return out
}

// factors are, for each byte of what a node stores, those of the bytes of the message in it.
func (x shape) factors() [][][]byte {
	out := make([][][]byte, x.n)
	for node := range out {
		for range x.d {
			out[node] = append(out[node], make([]byte, x.b()))
		}
	}
	for i := range x.b() {
		msg := make([]byte, x.b())
		msg[i] = 1
		for node, share := range x.shares(msg) {
			for c, b := range share {
				out[node][c][i] = b
			}
		}
	}
	return out
}

// nearest finds by trying which shares to leave out, the fewest first, the message for which at most t are wrong.
func (x shape) nearest(factors [][][]byte, shares []api.Symbols, t int) (msg []byte, wrong []int, ok bool) {
	for count := range t + 1 {
		for _, out := range choices(len(shares), count) {
			var rows [][]byte
			for i, one := range shares {
				if slices.Contains(out, i) {
					continue
				}
				for c, b := range one.Data {
					rows = append(rows, append(bytes.Clone(factors[one.Node][c]), b))
				}
			}
			if msg, ok := solved(rows, x.b()); ok {
				return msg, nodesAt(shares, out), true
			}
		}
	}
	return nil, nil, false
}

// repaired finds by trying which helps to leave out, the fewest first, the polynomial of D coefficients from whose values at most t differ.
func (x shape) repaired(helps []api.Symbols, t int) (share []byte, wrong []int, ok bool) {
	for count := range t + 1 {
		for _, out := range choices(len(helps), count) {
			var rows [][]byte
			for i, one := range helps {
				if !slices.Contains(out, i) {
					rows = append(rows, append(x.psi(one.Node), one.Data[0]))
				}
			}
			if share, ok := solved(rows, x.d); ok {
				return share, nodesAt(helps, out), true
			}
		}
	}
	return nil, nil, false
}

// nodesAt are the nodes of the symbols at these indices, ascending.
func nodesAt(symbols []api.Symbols, at []int) []int {
	var out []int
	for _, i := range at {
		out = append(out, symbols[i].Node)
	}
	slices.Sort(out)
	return out
}

// choices are all lists of count of the first n numbers, ascending.
func choices(n, count int) [][]int {
	if count == 0 {
		return [][]int{nil}
	}
	var out [][]int
	for last := count - 1; last < n; last++ {
		for _, one := range choices(last, count-1) {
			out = append(out, append(one, last))
		}
	}
	return out
}

// mixed returns n bytes that follow no plain pattern, the same for the same seed.
func mixed(seed, n int) []byte {
	b := make([]byte, n)
	state := uint32(seed)*2654435761 + 1
	for i := range b {
		state = state*1664525 + 1013904223
		b[i] = byte(state >> 24)
	}
	return b
}

// upTo returns the first n numbers.
func upTo(n int) []int {
	out := make([]int, n)
	for i := range out {
		out[i] = i
	}
	return out
}

// shuffled returns the first n numbers, in an order that follows no plain pattern.
func shuffled(seed, n int) []int {
	out := upTo(n)
	for i, b := range mixed(seed, n) {
		j := int(b) % n
		out[i], out[j] = out[j], out[i]
	}
	return out
}

// orders are the first n numbers ascending, descending, and mixed.
func orders(seed, n int) [][]int {
	down := upTo(n)
	slices.Reverse(down)
	return [][]int{upTo(n), down, shuffled(seed, n), shuffled(seed+9, n)}
}

// besides are the numbers but one, in their order.
func besides(numbers []int, one int) []int {
	return slices.DeleteFunc(slices.Clone(numbers), func(i int) bool { return i == one })
}

// messages of b bytes: zeros, only one end that is not, only ones, mixed ones.
func messages(b int) [][]byte {
	first, last := make([]byte, b), make([]byte, b)
	first[0], last[b-1] = 201, 77
	return [][]byte{make([]byte, b), first, last, bytes.Repeat([]byte{1}, b), mixed(b, b), mixed(b+1, b)}
}

// small are all codes of at most 7 nodes, and some of 8 and 9.
func small() []shape {
	out := []shape{{9, 1, 1}, {9, 1, 4}, {9, 2, 3}, {9, 3, 5}, {9, 8, 8}, {8, 4, 6}, {8, 2, 7}, {8, 5, 5}}
	for n := 2; n <= 7; n++ {
		for d := 1; d < n; d++ {
			for k := 1; k <= d; k++ {
				out = append(out, shape{n, k, d})
			}
		}
	}
	return out
}

// large are codes at the limits: of the most nodes, the greatest D, the greatest and the least K; and some of many nodes.
func large() []shape {
	return []shape{{255, 1, 1}, {255, 1, 254}, {255, 2, 3}, {255, 60, 60}, {255, 3, 120}, {100, 40, 60}, {64, 1, 30}, {40, 20, 39}}
}

// greatest are the codes whose messages have the most bytes.
func greatest() []shape {
	return []shape{{255, 254, 254}, {255, 100, 254}, {255, 200, 220}}
}

// symbol is what a node has, or sends.
func symbol(node int, data ...byte) api.Symbols { return api.Symbols{Node: node, Data: data} }

// picked are the symbols of some nodes, in that order, of a share, or help, for each node.
func picked(all [][]byte, nodes []int) []api.Symbols {
	var out []api.Symbols
	for _, node := range nodes {
		out = append(out, symbol(node, bytes.Clone(all[node])...))
	}
	return out
}

// made returns the code, which must exist.
func made(t testing.TB, f *field.Field, x shape) *mbr.Code {
	t.Helper()
	c, e := mbr.New(f, x.n, x.k, x.d)
	if c == nil || e != api.OK {
		t.Fatalf("no code of %v: %d", x, e)
	}
	return c
}
