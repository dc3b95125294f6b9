package local_test

import (
	"bytes"
	"math"
	"slices"
	"testing"

	"starfish/api"
	"starfish/field"
	"starfish/local"
)

// products are those of all pairs of elements, made once for all tests; inverses are the elements whose product with one is 1.
var products, inverses = func() (all [256][256]byte, of [256]byte) {
	for a := range all {
		for b := range all {
			all[a][b] = product(byte(a), byte(b))
			if all[a][b] == 1 {
				of[a] = byte(b)
			}
		}
	}
	return all, of
}()

// product multiplies bytes as polynomials, and takes the remainder, as the definition of the field says.
func product(a, b byte) byte {
	rest := 0
	for i := range 8 {
		if b>>i&1 == 1 {
			rest ^= int(a) << i
		}
	}
	for power := 14; power >= 8; power-- {
		if rest>>power&1 == 1 {
			rest ^= 285 << (power - 8)
		}
	}
	return byte(rest)
}

// raised returns the n-th power of an element.
func raised(a byte, n int) byte {
	out := byte(1)
	for range n {
		out = products[out][a]
	}
	return out
}

// addTimes adds the product of b and a factor to sum.
func addTimes(sum, b []byte, factor byte) {
	for i := range b {
		sum[i] ^= products[b[i]][factor]
	}
}

// solved returns the only solution of equations in so many unknowns, each row the coefficients and then the sum; false if there is none; it panics if there is more than one.
func solved(rows [][]byte, unknowns int) ([]byte, bool) {
	for col := range unknowns {
		at := slices.IndexFunc(rows[col:], func(row []byte) bool { return row[col] != 0 })
		if at < 0 {
			panic("more than one solution")
		}
		rows[col], rows[col+at] = rows[col+at], rows[col]
		lead := bytes.Clone(rows[col])
		clear(rows[col])
		addTimes(rows[col], lead, inverses[lead[col]])
		for i, row := range rows {
			if i != col && row[col] != 0 {
				addTimes(row, rows[col], row[col])
			}
		}
	}
	var out []byte
	for i, row := range rows {
		if i >= unknowns && row[unknowns] != 0 {
			return nil, false
		}
		if i < unknowns {
			out = append(out, row[unknowns])
		}
	}
	return out, true
}

// shape is a code's N, K and R.
type shape struct{ n, k, r int }

// valid is the condition of P12.1.
func (x shape) valid() bool {
	return x.r > 0 && x.n > 0 && x.n <= 255 && x.k > 0 && x.k <= x.n && x.r < 255 && 255%(x.r+1) == 0 && x.n%(x.r+1) == 0 && x.k%x.r == 0 && x.tells() <= x.n
}

func (x shape) tells() int { return x.k + x.k/x.r - 1 }

// most is the greatest t for which there can be enough shares.
func (x shape) most() int { return (x.n - x.tells()) / 2 }

// point is that of a node: the first of its group, times a power of h.
func (x shape) point(node int) byte {
	h := raised(2, 255/(x.r+1))
	return products[raised(2, node/(x.r+1))][raised(h, node%(x.r+1))]
}

// powers are those of the coefficients that are the bytes of a message, in their order.
func (x shape) powers() (out []int) {
	for j := range x.k / x.r {
		for i := range x.r {
			out = append(out, j*(x.r+1)+i)
		}
	}
	return out
}

// factors are, node by node, those of the bytes of a message in the share.
func (x shape) factors() (out [][]byte) {
	for node := range x.n {
		all := []byte{1} // the powers of the point
		for point := x.point(node); len(all) < x.tells(); {
			all = append(all, products[all[len(all)-1]][point])
		}
		var row []byte
		for _, power := range x.powers() {
			row = append(row, all[power])
		}
		out = append(out, row)
	}
	return out
}

// shares are those of a message.
func (x shape) shares(msg []byte) (out []byte) {
	for _, row := range x.factors() {
		var sum byte
		for i, factor := range row {
			sum ^= products[msg[i]][factor]
		}
		out = append(out, sum)
	}
	return out
}

// values are those of any polynomial, node by node.
func (x shape) values(polynomial []byte) (out []byte) {
	for node := range x.n {
		var sum byte
		for power, coefficient := range polynomial {
			sum ^= products[coefficient][raised(x.point(node), power)]
		}
		out = append(out, sum)
	}
	return out
}

// others are the nodes of the group of one, but itself.
func (x shape) others(node int) (out []int) {
	for other := range x.n {
		if other != node && other/(x.r+1) == node/(x.r+1) {
			out = append(out, other)
		}
	}
	return out
}

// near is the value at the point of a node of the polynomial of R coefficients with what the others of its group have.
func (x shape) near(to int, all []byte) byte {
	var rows [][]byte
	for _, other := range x.others(to) {
		var row []byte
		for power := range x.r {
			row = append(row, raised(x.point(other), power))
		}
		rows = append(rows, append(row, all[other]))
	}
	polynomial, _ := solved(rows, x.r)
	return x.values(polynomial)[to]
}

// nearest finds by trying which shares to leave out, the fewest first, the message for which at most t are wrong.
func (x shape) nearest(shares []api.Symbols, t int) (msg []byte, wrong []int, ok bool) {
	factors := x.factors()
	for count := range t + 1 {
		for _, out := range choices(len(shares), count) {
			var rows [][]byte
			for i, one := range shares {
				if !slices.Contains(out, i) {
					rows = append(rows, append(bytes.Clone(factors[one.Node]), one.Data[0]))
				}
			}
			if msg, ok := solved(rows, x.k); ok {
				return msg, nodesAt(shares, out), true
			}
		}
	}
	return nil, nil, false
}

// nodesAt are the nodes of the symbols at these indices, ascending.
func nodesAt(symbols []api.Symbols, at []int) []int {
	var out []int
	for _, i := range at {
		out = append(out, symbols[i].Node)
	}
	slices.Sort(out)
	return out
}

// choices are all lists of count of the first n numbers, ascending.
func choices(n, count int) [][]int {
	if count == 0 {
		return [][]int{nil}
	}
	var out [][]int
	for last := count - 1; last < n; last++ {
		for _, one := range choices(last, count-1) {
			out = append(out, append(one, last))
		}
	}
	return out
}

// mixed returns n bytes that follow no plain pattern, the same for the same seed.
func mixed(seed, n int) []byte {
	b := make([]byte, n)
	state := uint32(seed)*2654435761 + 1
	for i := range b {
		state = state*1664525 + 1013904223
		b[i] = byte(state >> 24)
	}
	return b
}

// upTo returns the first n numbers.
func upTo(n int) []int {
	out := make([]int, n)
	for i := range out {
		out[i] = i
	}
	return out
}

// shuffled returns the first n numbers, in an order that follows no plain pattern.
func shuffled(seed, n int) []int {
	out := upTo(n)
	for i, b := range mixed(seed, n) {
		j := int(b) % n
		out[i], out[j] = out[j], out[i]
	}
	return out
}

// orders are the first n numbers ascending, descending, and mixed.
func orders(seed, n int) [][]int {
	down := upTo(n)
	slices.Reverse(down)
	return [][]int{upTo(n), down, shuffled(seed, n), shuffled(seed+9, n)}
}

// besides are the numbers but some, in their order.
func besides(numbers []int, some ...int) []int {
	return slices.DeleteFunc(slices.Clone(numbers), func(i int) bool { return slices.Contains(some, i) })
}

// outside are numbers of no node.
func outside(n int) []int {
	return []int{-1, -2, -n, -256, math.MinInt, n, n + 1, 256, 257, 1 << 32, 1<<32 + 1, math.MaxInt}
}

// messages of k bytes: zeros, only one end that is not, only ones, mixed ones.
func messages(k int) [][]byte {
	first, last := make([]byte, k), make([]byte, k)
	first[0], last[k-1] = 201, 77
	return [][]byte{make([]byte, k), first, last, bytes.Repeat([]byte{1}, k), mixed(k, k), mixed(k+1, k)}
}

// small are all codes of at most 10 nodes.
func small() (out []shape) {
	for n := range 11 {
		for r := range 10 {
			for k := range n {
				if x := (shape{n, k, r}); x.valid() {
					out = append(out, x)
				}
			}
		}
	}
	return out
}

// large are codes at the limits: of the most nodes, the greatest and the least R and K; and some of many nodes.
func large() []shape {
	return []shape{{12, 4, 2}, {15, 2, 2}, {15, 10, 2}, {15, 8, 4}, {15, 14, 14}, {17, 16, 16}, {30, 14, 14}, {34, 16, 16}, {45, 20, 4}, {51, 50, 50}, {85, 84, 84}, {102, 50, 50}, {255, 2, 2}, {255, 170, 2}, {255, 4, 4}, {255, 204, 4}, {255, 112, 14}, {255, 240, 16}, {255, 150, 50}, {255, 252, 84}, {255, 254, 254}}
}

// all are small and large ones.
func all() []shape { return append(small(), large()...) }

// symbol is what a node has, or sends.
func symbol(node int, data ...byte) api.Symbols { return api.Symbols{Node: node, Data: data} }

// picked are the symbols of some nodes, in that order, of a byte for each node.
func picked(all []byte, nodes []int) []api.Symbols {
	var out []api.Symbols
	for _, node := range nodes {
		out = append(out, symbol(node, all[node]))
	}
	return out
}

// made returns the code, which must exist.
func made(t testing.TB, f *field.Field, x shape) *local.Code {
	t.Helper()
	c, e := local.New(f, x.n, x.k, x.r)
	if c == nil || e != api.OK {
		t.Fatalf("no code of %v: %d", x, e)
	}
	return c
}
