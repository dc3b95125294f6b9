package transfer_test

import (
	"bytes"
	"slices"
	"testing"

	"starfish/api"
	"starfish/field"
	"starfish/transfer"
)

// products are those of all pairs of elements, made once for all tests; inverses are the elements whose product with one is 1.
var products, inverses = func() (all [256][256]byte, of [256]byte) {
	for a := range all {
		for b := range all {
			all[a][b] = product(byte(a), byte(b))
			if all[a][b] == 1 {
				of[a] = byte(b)
			}
		}
	}
	return all, of
}()

// product multiplies bytes as polynomials, and takes the remainder, as the definition of the field says.
func product(a, b byte) byte {
	rest := 0
	for i := range 8 {
		if b>>i&1 == 1 {
			rest ^= int(a) << i
		}
	}
	for power := 14; power >= 8; power-- {
		if rest>>power&1 == 1 {
			rest ^= 285 << (power - 8)
		}
	}
	return byte(rest)
}

// addTimes adds the product of b and a factor to sum.
func addTimes(sum, b []byte, factor byte) {
	for i := range b {
		sum[i] ^= products[b[i]][factor]
	}
}

// solved returns the only solution of equations in so many unknowns, each row the coefficients and then the sum; false if there is none; it panics if there is more than one.
func solved(rows [][]byte, unknowns int) ([]byte, bool) {
	for col := range unknowns {
		at := slices.IndexFunc(rows[col:], func(row []byte) bool { return row[col] != 0 })
		if at < 0 {
			panic("more than one solution")
		}
		rows[col], rows[col+at] = rows[col+at], rows[col]
		lead := bytes.Clone(rows[col])
		clear(rows[col])
		addTimes(rows[col], lead, inverses[lead[col]])
		for i, row := range rows {
			if i != col && row[col] != 0 {
				addTimes(row, rows[col], row[col])
			}
		}
	}
	var out []byte
	for i, row := range rows {
		if i >= unknowns && row[unknowns] != 0 {
			return nil, false
		}
		if i < unknowns {
			out = append(out, row[unknowns])
		}
	}
	return out, true
}

// shape is a code's N and K.
type shape struct{ n, k int }

func (x shape) alpha() int { return x.n - 1 }

// b is one byte for each edge of the first K nodes.
func (x shape) b() int {
	count := 0
	for _, edge := range x.edges() {
		if edge[0] < x.k {
			count++
		}
	}
	return count
}

// edges are all pairs of nodes, the lesser one first, in order.
func (x shape) edges() (out [][2]int) {
	for a := range x.n {
		for b := range x.n {
			if a < b {
				out = append(out, [2]int{a, b})
			}
		}
	}
	return out
}

// factors are, edge by edge, those of the bytes of a message in the byte of the edge: the powers of the point.
func (x shape) factors() (out [][]byte) {
	point, size := byte(1), x.b()
	for range x.edges() {
		row := []byte{1}
		for len(row) < size {
			row = append(row, products[row[len(row)-1]][point])
		}
		out = append(out, row)
		point = products[point][2]
	}
	return out
}

// word is that of a message.
func (x shape) word(msg []byte) (out []byte) {
	for _, row := range x.factors() {
		var sum byte
		for i, factor := range row {
			sum ^= products[msg[i]][factor]
		}
		out = append(out, sum)
	}
	return out
}

// others are the nodes but one, ascending.
func (x shape) others(node int) []int { return besides(upTo(x.n), node) }

// places are those in a word of the edges of each node: those with a lesser other node come first, ascending.
func (x shape) places() (out [][]int) {
	edges := x.edges()
	for node := range x.n {
		var of []int
		for place, edge := range edges {
			if edge[0] == node || edge[1] == node {
				of = append(of, place)
			}
		}
		out = append(out, of)
	}
	return out
}

// stored are the shares of a word, be it that of a message or not.
func (x shape) stored(word []byte) (out [][]byte) {
	for _, places := range x.places() {
		var share []byte
		for _, place := range places {
			share = append(share, word[place])
		}
		out = append(out, share)
	}
	return out
}

// shares are those of a message.
func (x shape) shares(msg []byte) [][]byte { return x.stored(x.word(msg)) }

// helps are what all nodes would send to repair one, for these shares; its own is not used.
func (x shape) helps(to int, shares [][]byte) [][]byte {
	out := make([][]byte, x.n)
	for from := range x.n {
		if from != to {
			out[from] = []byte{shares[from][slices.Index(x.others(from), to)]}
		}
	}
	return out
}

// told finds the message with these shares, by the equations of all their bytes.
func (x shape) told(shares []api.Symbols) ([]byte, bool) {
	factors, places := x.factors(), x.places()
	var rows [][]byte
	for _, s := range shares {
		for i, place := range places[s.Node] {
			rows = append(rows, append(bytes.Clone(factors[place]), s.Data[i]))
		}
	}
	return solved(rows, x.b())
}

// choices are all lists of count of the first n numbers, ascending.
func choices(n, count int) [][]int {
	if count == 0 {
		return [][]int{nil}
	}
	var out [][]int
	for last := count - 1; last < n; last++ {
		for _, one := range choices(last, count-1) {
			out = append(out, append(one, last))
		}
	}
	return out
}

// mixed returns n bytes that follow no plain pattern, the same for the same seed.
func mixed(seed, n int) []byte {
	b := make([]byte, n)
	state := uint32(seed)*2654435761 + 1
	for i := range b {
		state = state*1664525 + 1013904223
		b[i] = byte(state >> 24)
	}
	return b
}

// upTo returns the first n numbers.
func upTo(n int) []int {
	out := make([]int, n)
	for i := range out {
		out[i] = i
	}
	return out
}

// shuffled returns the first n numbers, in an order that follows no plain pattern.
func shuffled(seed, n int) []int {
	out := upTo(n)
	for i, b := range mixed(seed, n) {
		j := int(b) % n
		out[i], out[j] = out[j], out[i]
	}
	return out
}

// orders are the first n numbers ascending, descending, and mixed.
func orders(seed, n int) [][]int {
	down := upTo(n)
	slices.Reverse(down)
	return [][]int{upTo(n), down, shuffled(seed, n), shuffled(seed+9, n)}
}

// besides are the numbers but one, in their order.
func besides(numbers []int, one int) []int {
	return slices.DeleteFunc(slices.Clone(numbers), func(i int) bool { return i == one })
}

// messages of b bytes: zeros, only one end that is not, only ones, mixed ones.
func messages(b int) [][]byte {
	first, last := make([]byte, b), make([]byte, b)
	first[0], last[b-1] = 201, 77
	return [][]byte{make([]byte, b), first, last, bytes.Repeat([]byte{1}, b), mixed(b, b), mixed(b+1, b)}
}

// small are all codes of at most 6 nodes, and some of 7 and 8.
func small() []shape {
	out := []shape{{7, 1}, {7, 3}, {7, 6}, {8, 2}, {8, 5}}
	for n := 2; n <= 6; n++ {
		for k := 1; k < n; k++ {
			out = append(out, shape{n, k})
		}
	}
	return out
}

// large are codes at the limits, and some of many nodes.
func large() []shape {
	return []shape{{23, 1}, {23, 2}, {23, 11}, {23, 21}, {23, 22}, {22, 7}, {17, 16}, {16, 1}, {13, 6}}
}

// all are small and large ones.
func all() []shape { return append(small(), large()...) }

// symbol is what a node has, or sends.
func symbol(node int, data ...byte) api.Symbols { return api.Symbols{Node: node, Data: data} }

// picked are the symbols of some nodes, in that order, of a share, or help, for each node.
func picked(all [][]byte, nodes []int) []api.Symbols {
	var out []api.Symbols
	for _, node := range nodes {
		out = append(out, symbol(node, bytes.Clone(all[node])...))
	}
	return out
}

// made returns the code, which must exist.
func made(t testing.TB, f *field.Field, x shape) *transfer.Code {
	t.Helper()
	c, e := transfer.New(f, x.n, x.k)
	if c == nil || e != api.OK {
		t.Fatalf("no code of %v: %d", x, e)
	}
	return c
}
