package mbr_test

import (
	"bytes"
	"math"
	"slices"
	"testing"

	"starfish/api"
	"starfish/field"
	"starfish/mbr"
)

// decodes reports a result of Decode that is not this message, and these nodes.
func decodes(t *testing.T, c *mbr.Code, shares []api.Symbols, most int, msg []byte, nodes []int) {
	t.Helper()
	got, wrong, e := c.Decode(shares, most)
	if e != api.OK || !bytes.Equal(got, msg) || !slices.Equal(wrong, nodes) {
		t.Errorf("Decode of %v, %d: %v, %v, %d, want %v, %v", shares, most, got, wrong, e, msg, nodes)
	}
}

// decodesNot reports a result of Decode that is not this error alone.
func decodesNot(t *testing.T, c *mbr.Code, shares []api.Symbols, most int, want api.Errno) {
	t.Helper()
	if msg, wrong, e := c.Decode(shares, most); e != want || len(msg) != 0 || len(wrong) != 0 {
		t.Errorf("Decode of %v, %d: %v, %v, %d, want the error %d", shares, most, msg, wrong, e, want)
	}
}

// changed returns the shares, of which those at some indices are wrong in one of several ways.
func (x shape) changed(shares []api.Symbols, at []int, way int) []api.Symbols {
	var out []api.Symbols
	for _, s := range shares {
		out = append(out, symbol(s.Node, bytes.Clone(s.Data)...))
	}
	var other [][]byte
	if way%6 == 4 {
		other = x.shares(bytes.Repeat([]byte{byte(way*31 + 5)}, x.b()))
	}
	for i, index := range at {
		data, node := out[index].Data, out[index].Node
		kept := bytes.Clone(data)
		switch way % 6 {
		case 0: // one byte, at the beginning or at the end
			data[0] ^= byte(index + 1)
		case 1:
			data[len(data)-1] ^= 128
		case 2: // all bytes
			for j, b := range mixed(index+way, len(data)) {
				data[j] ^= b | 1
			}
		case 3: // one byte, each time of another column
			data[(i+way/6)%len(data)] ^= 3
		case 4: // all of one other message
			copy(data, other[node])
		case 5: // nothing
			clear(data)
		}
		if bytes.Equal(kept, data) {
			data[0]++
		}
	}
	return out
}

// P10.6, P10.8: each choice of wrong shares up to t, in several ways, of all shares, and of just enough, in any order.
func TestDecode(t *testing.T) {
	for _, x := range small() {
		c := made(t, field.New(), x)
		msg := mixed(x.n, x.b())
		all := x.shares(msg)
		for most := 0; x.k+2*most <= x.n; most++ {
			for seed, nodes := range orders(most, x.n) {
				if seed%2 == 1 {
					nodes = nodes[:x.k+2*most]
				}
				told := picked(all, nodes)
				for count := range most + 1 {
					for i, at := range choices(len(nodes), count) {
						decodes(t, c, x.changed(told, at, i+seed), most, msg, nodesAt(told, at))
					}
				}
			}
		}
	}
}

// P10.6, P10.8: messages of all kinds, without wrong shares and with some.
func TestDecodeMessages(t *testing.T) {
	for _, x := range append(small(), large()...) {
		c := made(t, nil, x)
		for i, msg := range messages(x.b()) {
			if x.b() > 1000 && i < 4 {
				continue
			}
			told := picked(x.shares(msg), shuffled(i, x.n))
			decodes(t, c, told[:x.k], 0, msg, nil)
			decodes(t, c, told, 0, msg, nil)
			if x.k+2 <= x.n {
				at := []int{i % (x.k + 2)}
				decodes(t, c, x.changed(told[:x.k+2], at, i), 1, msg, nodesAt(told, at))
				decodes(t, c, x.changed(told, at, i+1), 1, msg, nodesAt(told, at))
			}
		}
	}
}

// P10.6, P10.8: one wrong byte, wherever it is, of just enough shares, and of one more than t can be wrong.
func TestDecodeEachByte(t *testing.T) {
	for _, x := range small() {
		c := made(t, nil, x)
		msg := mixed(x.k, x.b())
		all := x.shares(msg)
		for node := range x.n {
			for col := range x.d {
				nodes := append(besides(shuffled(node+col, x.n), node), node)
				slices.Reverse(nodes[x.n-2:])
				shares := picked(all, nodes)
				shares[x.n-2].Data[col] ^= byte(node + col + 1)
				if x.k+2 <= x.n {
					decodes(t, c, shares[x.n-x.k-2:], 1, msg, []int{node})
				}
				decodesNot(t, c, shares[x.n-x.k-1:], 0, api.ErrLost)
			}
		}
	}
}

// P10.8: any K nodes determine the message, in any order.
func TestDecodeAnyNodes(t *testing.T) {
	for _, x := range small() {
		c := made(t, nil, x)
		msg := mixed(x.d, x.b())
		all := x.shares(msg)
		for _, nodes := range choices(x.n, x.k) {
			decodes(t, c, picked(all, nodes), 0, msg, nil)
			slices.Reverse(nodes)
			decodes(t, c, picked(all, nodes), 0, msg, nil)
		}
	}
}

// P10.6: as many wrong shares as can be, each in one column of its own, as far as there are enough: few are wrong in each, but all of them count. One more is too many.
func TestDecodeApart(t *testing.T) {
	for _, x := range append(small(), large()...) {
		c := made(t, field.New(), x)
		msg := mixed(x.n, x.b())
		all := x.shares(msg)
		tries := 6
		if x.n > 20 {
			tries = 1
		}
		for first := range min(x.d, tries) {
			most := (x.n - x.k) / 2
			nodes := shuffled(first, x.n)
			for count := most; count >= 0 && count > most-min(tries, 3); count-- {
				shares := picked(all, nodes)
				for i := range count {
					shares[i].Data[(first+i)%x.d] ^= byte(i + 1)
				}
				decodes(t, c, shares, most, msg, nodesAt(shares, upTo(count)))
				if count > 0 {
					decodesNot(t, c, shares, count-1, api.ErrLost)
				}
			}
		}
	}
}

// P10.6: codes at the limits, with as many wrong shares as can be, and fewer.
func TestDecodeLarge(t *testing.T) {
	for i, x := range append(large(), greatest()...) {
		c := made(t, field.New(), x)
		msg := mixed(x.n, x.b())
		all, _ := c.Encode(msg)
		for way := range 6 {
			most := (x.n - x.k) / 2
			nodes := shuffled(i+way, x.n)
			if way%2 == 0 {
				most = most * (way + 1) / 6
				nodes = nodes[:x.k+2*most]
			}
			at := shuffled(way, len(nodes))[:most]
			told := picked(all, nodes)
			decodes(t, c, x.changed(told, at, way), most, msg, nodesAt(told, at))
			decodes(t, c, x.changed(told, at[:most/2], way), most, msg, nodesAt(told, at[:most/2]))
			decodesNot(t, c, told[:x.k+2*most-1], most, api.ErrFew)
			if x.b() > 10000 {
				break
			}
		}
	}
}

// P10.6: whatever the shares, compared with all choices of wrong ones.
func TestDecodeAnything(t *testing.T) {
	lost, told := 0, 0
	for _, x := range small() {
		c, factors := made(t, field.New(), x), x.factors()
		for seed := range 30 {
			for most := 0; x.k+2*most <= x.n; most++ {
				nodes := shuffled(seed, x.n)
				nodes = nodes[:len(nodes)-seed%(x.n-x.k-2*most+1)]
				shares := picked(x.shares(mixed(seed, x.b())), nodes)
				count := min(most+seed%3, len(nodes))
				shares = x.changed(shares, shuffled(seed+1, len(nodes))[:count], seed/2)
				if seed%7 == 0 {
					shares = x.changed(shares, upTo(len(nodes)), 2)
				}
				if msg, wrong, ok := x.nearest(factors, shares, most); ok {
					told++
					decodes(t, c, shares, most, msg, wrong)
				} else {
					lost++
					decodesNot(t, c, shares, most, api.ErrLost)
				}
			}
		}
	}
	if lost < 500 || told < 500 {
		t.Errorf("%d were lost, %d told", lost, told)
	}
}

// P10.6: shares of a matrix that is no message's are of no message: one whose square is not symmetric, one whose other parts are not, one that is not 0 right below.
func TestDecodeNoMatrix(t *testing.T) {
	for _, x := range small() {
		c := made(t, nil, x)
		for row := range x.d {
			for col := range x.d {
				msg := mixed(row+col, x.b())
				matrix := x.matrixOf(msg)
				matrix[row][col] ^= 5
				if row == col && row < x.k { // that of another message
					continue
				}
				for most := 0; x.k+2*most <= x.n; most++ {
					shares := picked(x.times(matrix), shuffled(most, x.n))
					want, wrong, ok := x.nearest(x.factors(), shares, most)
					if ok {
						decodes(t, c, shares, most, want, wrong)
					} else {
						decodesNot(t, c, shares, most, api.ErrLost)
					}
					if x.n > 6 {
						break
					}
				}
			}
		}
		if x.k < 2 {
			continue
		}
		matrix := x.matrixOf(mixed(3, x.b()))
		matrix[1][0]++
		decodesNot(t, c, picked(x.times(matrix), upTo(x.k)), 0, api.ErrLost)
		decodesNot(t, c, picked(x.times(matrix), upTo(x.n)), 0, api.ErrLost)
	}
}

// P10.6: shares between those of two messages that have as many in common as two can.
func TestDecodeBetween(t *testing.T) {
	for _, x := range append(small(), shape{40, 1, 17}, shape{33, 5, 10}) {
		c := made(t, nil, x)
		first := mixed(1, x.b())
		second := bytes.Clone(first)
		second[0] ^= 9
		if x.k > 1 { // the square changes by the product of a column, which is 0 at K - 1 points, and a row
			root := []byte{1}
			for node := range x.k - 1 {
				next := append([]byte{0}, root...)
				addTimes(next, root, x.psi(node)[1])
				root = next
			}
			at := 0
			second = bytes.Clone(first)
			for row := range x.k {
				for col := row; col < x.k; col++ {
					second[at] ^= products[root[row]][root[col]]
					at++
				}
			}
		}
		one, two := x.shares(first), x.shares(second)
		for node := range x.n {
			if bytes.Equal(one[node], two[node]) != (node < x.k-1) {
				t.Fatalf("%v: the node %d", x, node)
			}
		}
		apart := x.n - x.k + 1
		for count := range apart + 1 { // so many nodes store what they store for the second message
			split := x.n - count
			shares := picked(slices.Concat(one[:split], two[split:]), upTo(x.n))
			for most := 0; x.k+2*most <= x.n; most++ {
				switch {
				case count <= most:
					decodes(t, c, shares, most, first, upTo(x.n)[split:])
				case apart-count <= most:
					decodes(t, c, shares, most, second, upTo(x.n)[x.k-1:split])
				default: // so far from the first one that no other one is near
					decodesNot(t, c, shares, most, api.ErrLost)
				}
			}
		}
	}
}

// P10.6: shares of a code of one byte each, all of a small set in each combination.
func TestDecodeEachCombination(t *testing.T) {
	x := shape{5, 1, 1} // each node stores the message
	c := made(t, nil, x)
	kinds := []byte{0, 1, 7}
	for choice := range 243 {
		var shares []api.Symbols
		for node := range x.n {
			shares = append(shares, symbol(node, kinds[choice%3]))
			choice /= 3
		}
		for most := range 3 {
			lost := true
			for _, kind := range kinds {
				var wrong []int
				for _, s := range shares {
					if s.Data[0] != kind {
						wrong = append(wrong, s.Node)
					}
				}
				if len(wrong) <= most {
					lost = false
					decodes(t, c, shares, most, []byte{kind}, wrong)
				}
			}
			if lost {
				decodesNot(t, c, shares, most, api.ErrLost)
			}
		}
	}
}

// P10.6: exactly K plus twice t shares, one fewer, and none; and a huge t.
func TestDecodeFew(t *testing.T) {
	for _, x := range append(small(), large()...) {
		c := made(t, nil, x)
		msg := mixed(x.n, x.b())
		all := picked(x.shares(msg), shuffled(2, x.n))
		for _, most := range tries(x.n, x.k) {
			enough := math.MaxInt
			if most < 1000 {
				enough = x.k + 2*most
			}
			for _, count := range []int{0, 1, x.k - 1, x.k, enough - 2, enough - 1, x.n} {
				if count >= 0 && count < enough && count <= x.n {
					decodesNot(t, c, all[:count], most, api.ErrFew)
				}
			}
			if enough <= x.n {
				decodes(t, c, all[:enough], most, msg, nil)
			}
			decodesNot(t, c, nil, most, api.ErrFew)
			decodesNot(t, c, []api.Symbols{}, most, api.ErrFew)
		}
	}
}

// P10.6: wrong arguments, also where another error would hold.
func TestDecodeWrongArguments(t *testing.T) {
	for _, x := range append(small(), large()...) {
		c := made(t, nil, x)
		all := x.shares(mixed(x.n, x.b()))
		for _, count := range []int{1, x.k, x.n} {
			nodes := shuffled(count, x.n)[:count]
			for _, most := range []int{0, 1, math.MaxInt} {
				for _, change := range wrongSymbols(x.n, x.d) {
					decodesNot(t, c, change(picked(all, nodes)), most, api.ErrArg)
				}
			}
			for _, most := range below(x.k) {
				decodesNot(t, c, picked(all, nodes), most, api.ErrArg)
				decodesNot(t, c, nil, most, api.ErrArg)
			}
		}
	}
}
