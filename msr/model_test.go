package msr

import (
	"bytes"
	"slices"
	"testing"

	"starfish/api"
	"starfish/field"
)

// products are those of all pairs of elements, made once for all tests; inverses are the elements whose product with one is 1.
var products, inverses = func() (all [256][256]byte, of [256]byte) {
	for a := range all {
		for b := range all {
			all[a][b] = product(byte(a), byte(b))
			if all[a][b] == 1 {
				of[a] = byte(b)
			}
		}
	}
	return all, of
}()

// product multiplies bytes as polynomials, and takes the remainder, as the definition of the field says.
func product(a, b byte) byte {
	rest := 0
	for i := range 8 {
		if b>>i&1 == 1 {
			rest ^= int(a) << i
		}
	}
	for power := 14; power >= 8; power-- {
		if rest>>power&1 == 1 {
			rest ^= 285 << (power - 8)
		}
	}
	return byte(rest)
}

// power multiplies an element n times.
func power(x byte, n int) byte {
	out := byte(1)
	for range n {
		out = products[out][x]
	}
	return out
}

// sumOf adds up the products of two lists, index by index.
func sumOf(a, b []byte) byte {
	var sum byte
	for i := range a {
		sum ^= products[a[i]][b[i]]
	}
	return sum
}

// reduced solves equations, whose coefficients are the first cols bytes of the rows: each column of these that is no sum of multiples of those left of it gets a 1 in a row of its own, and zeros elsewhere. It returns the columns, in the order of their rows, which come first.
func reduced(rows [][]byte, cols int) []int {
	var leads []int
	for col := 0; col < cols; col++ {
		at := slices.IndexFunc(rows[len(leads):], func(row []byte) bool { return row[col] != 0 })
		if at < 0 {
			continue
		}
		at += len(leads)
		rows[len(leads)], rows[at] = rows[at], rows[len(leads)]
		lead := rows[len(leads)]
		factor := inverses[lead[col]]
		for i := range lead {
			lead[i] = products[factor][lead[i]]
		}
		for i, row := range rows {
			if factor := row[col]; i != len(leads) && factor != 0 {
				for j := range row {
					row[j] ^= products[factor][lead[j]]
				}
			}
		}
		leads = append(leads, col)
	}
	return leads
}

// solved returns the only solution of equations in so many unknowns, each row the coefficients and then the sum; false if there is none; it panics if there is more than one.
func solved(rows [][]byte, unknowns int) ([]byte, bool) {
	leads := reduced(rows, unknowns)
	for _, row := range rows[len(leads):] {
		if row[unknowns] != 0 {
			return nil, false
		}
	}
	if len(leads) != unknowns {
		panic("more than one solution")
	}
	var out []byte
	for _, row := range rows[:unknowns] {
		out = append(out, row[unknowns])
	}
	return out, true
}

// shape is a code's N, K and D.
type shape struct{ n, k, d int }

func (x shape) alpha() int   { return x.d - x.k + 1 }
func (x shape) b() int       { return x.k * x.alpha() }
func (x shape) virtual() int { return x.d - 2*x.k + 2 }

// point is that of a place.
func (x shape) point(place int) byte { return power(2, place) }

// ofNode is the point of a node.
func (x shape) ofNode(node int) byte { return x.point(x.virtual() + node) }

// powers are the first n powers of an element.
func powers(x byte, n int) []byte {
	out := make([]byte, n)
	for i := range out {
		out[i] = power(x, i)
	}
	return out
}

// equation is, for each entry of S1 and then S2 on and right of the diagonal, row by row, its factor in the byte c of what a place stores: phi S1 + lambda phi S2.
func (x shape) equation(place, c int) []byte {
	alpha := x.alpha()
	phi, lambda := powers(x.point(place), alpha), power(x.point(place), alpha)
	var out []byte
	for _, factor := range []byte{1, lambda} {
		for row := range alpha {
			for col := row; col < alpha; col++ {
				var one byte
				if col == c {
					one = phi[row]
				} else if row == c { // the entry below the diagonal
					one = phi[col]
				}
				out = append(out, products[factor][one])
			}
		}
	}
	return out
}

// model is a code by its definition.
type model struct {
	shape
	factors [][]byte // of each byte of the message in each byte of all shares, node by node
}

// modelOf solves the equations of the definition for each message that is 1 at one index, and 0 elsewhere.
func modelOf(t testing.TB, x shape) model {
	t.Helper()
	alpha, unknowns := x.alpha(), x.alpha()*(x.alpha()+1)
	var rows [][]byte
	for place := range x.virtual() + x.k {
		for c := range alpha {
			sums := make([]byte, x.b())
			if place >= x.virtual() {
				sums[(place-x.virtual())*alpha+c] = 1
			}
			rows = append(rows, append(x.equation(place, c), sums...))
		}
	}
	if len(rows) != unknowns || len(reduced(rows, unknowns)) != unknowns {
		t.Fatalf("%v: there is not exactly one pair of matrices", x)
	}
	m := model{shape: x}
	for node := range x.n {
		for c := range alpha {
			factors := make([]byte, x.b())
			for i, factor := range x.equation(x.virtual()+node, c) {
				for j := range factors {
					factors[j] ^= products[factor][rows[i][unknowns+j]]
				}
			}
			m.factors = append(m.factors, factors)
		}
	}
	return m
}

// share is what a node stores for a message.
func (m model) share(msg []byte, node int) []byte {
	var out []byte
	for _, factors := range m.factors[node*m.alpha() : (node+1)*m.alpha()] {
		out = append(out, sumOf(factors, msg))
	}
	return out
}

// shares are those of all nodes.
func (m model) shares(msg []byte) [][]byte {
	var out [][]byte
	for node := range m.n {
		out = append(out, m.share(msg, node))
	}
	return out
}

// help is what a node sends to repair another one.
func (x shape) help(to int, share []byte) byte {
	return sumOf(share, powers(x.ofNode(to), x.alpha()))
}

// nearest finds by trying which shares to leave out, the fewest first, the message for which at most t are wrong.
func (m model) nearest(shares []api.Symbols, t int) (msg []byte, wrong []int, ok bool) {
	for count := range t + 1 {
		for _, out := range choices(len(shares), count) {
			var rows [][]byte
			for i, one := range shares {
				if slices.Contains(out, i) {
					continue
				}
				for c, factors := range m.factors[one.Node*m.alpha() : (one.Node+1)*m.alpha()] {
					rows = append(rows, append(bytes.Clone(factors), one.Data[c]))
				}
			}
			if msg, ok := solved(rows, m.b()); ok {
				return msg, nodesAt(shares, out), true
			}
		}
	}
	return nil, nil, false
}

// repaired finds by trying which helps to leave out, the fewest first, the polynomial from whose values at most t differ, and returns the share that it gives.
func (x shape) repaired(to int, helps []api.Symbols, t int) (share []byte, wrong []int, ok bool) {
	alpha := x.alpha()
	for count := range t + 1 {
		for _, out := range choices(len(helps), count) {
			var rows [][]byte
			for place := range x.virtual() {
				rows = append(rows, append(powers(x.point(place), 2*alpha), 0))
			}
			for i, one := range helps {
				if !slices.Contains(out, i) {
					rows = append(rows, append(powers(x.ofNode(one.Node), 2*alpha), one.Data[0]))
				}
			}
			if p, ok := solved(rows, 2*alpha); ok {
				lambda := power(x.ofNode(to), alpha)
				for c := range alpha {
					share = append(share, p[c]^products[lambda][p[alpha+c]])
				}
				return share, nodesAt(helps, out), true
			}
		}
	}
	return nil, nil, false
}

// nodesAt are the nodes of the symbols at these indices, ascending.
func nodesAt(symbols []api.Symbols, at []int) []int {
	var out []int
	for _, i := range at {
		out = append(out, symbols[i].Node)
	}
	slices.Sort(out)
	return out
}

// choices are all lists of count of the first n numbers, ascending.
func choices(n, count int) [][]int {
	if count == 0 {
		return [][]int{nil}
	}
	var out [][]int
	for last := count - 1; last < n; last++ {
		for _, one := range choices(last, count-1) {
			out = append(out, append(one, last))
		}
	}
	return out
}

// mixed returns n bytes that follow no plain pattern, the same for the same seed.
func mixed(seed, n int) []byte {
	b := make([]byte, n)
	state := uint32(seed)*2654435761 + 1
	for i := range b {
		state = state*1664525 + 1013904223
		b[i] = byte(state >> 24)
	}
	return b
}

// upTo returns the first n numbers.
func upTo(n int) []int {
	out := make([]int, n)
	for i := range out {
		out[i] = i
	}
	return out
}

// downFrom returns the first n numbers, the greatest first.
func downFrom(n int) []int {
	out := upTo(n)
	slices.Reverse(out)
	return out
}

// shuffled returns the first n numbers, in an order that follows no plain pattern.
func shuffled(seed, n int) []int {
	out := upTo(n)
	for i, b := range mixed(seed, n) {
		j := int(b) % n
		out[i], out[j] = out[j], out[i]
	}
	return out
}

// messages of b bytes: zeros, only one end that is not, only ones, mixed ones.
func messages(b int) [][]byte {
	first, last := make([]byte, b), make([]byte, b)
	first[0], last[b-1] = 201, 77
	return [][]byte{make([]byte, b), first, last, bytes.Repeat([]byte{1}, b), mixed(b, b), mixed(b+1, b)}
}

// small are all codes of at most 8 nodes, and some of 9.
func small() []shape {
	out := []shape{{9, 5, 8}, {9, 2, 3}, {9, 3, 4}, {9, 3, 5}}
	for n := 3; n <= 8; n++ {
		for d := 2; d < n; d++ {
			for k := 2; 2*k-2 <= d; k++ {
				out = append(out, shape{n, k, d})
			}
		}
	}
	return out
}

// large are codes at the limits: of the most nodes, or the greatest Alpha, or as many places as have different lambdas.
func large() []shape {
	return []shape{{255, 2, 2}, {84, 4, 6}, {83, 3, 5}, {47, 2, 6}, {51, 6, 10}, {254, 2, 3}, {18, 2, 17}, {40, 2, 17}, {33, 17, 32}, {30, 9, 24}}
}

// picked are the symbols of some nodes, in that order, of a share, or help, for each node.
func picked(all [][]byte, nodes []int) []api.Symbols {
	var out []api.Symbols
	for _, node := range nodes {
		out = append(out, api.Symbols{Node: node, Data: bytes.Clone(all[node])})
	}
	return out
}

// made returns the code, which must exist.
func made(t testing.TB, f *field.Field, x shape) *Code {
	t.Helper()
	c, e := New(f, x.n, x.k, x.d)
	if c == nil || e != api.OK {
		t.Fatalf("no code of %v: %d", x, e)
	}
	return c
}
