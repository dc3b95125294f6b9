package local_test

import (
	"bytes"
	"math"
	"slices"
	"testing"

	"starfish/api"
	"starfish/field"
	"starfish/local"
)

// decodes reports a result of Decode that is not this message, and these nodes.
func decodes(t *testing.T, c *local.Code, shares []api.Symbols, most int, msg []byte, nodes []int) {
	t.Helper()
	got, wrong, e := c.Decode(shares, most)
	if e != api.OK || !bytes.Equal(got, msg) || !slices.Equal(wrong, nodes) {
		t.Errorf("Decode of %v, %d: %v, %v, %d, want %v, %v", shares, most, got, wrong, e, msg, nodes)
	}
}

// decodesNot reports a result of Decode that is not this error alone.
func decodesNot(t *testing.T, c *local.Code, shares []api.Symbols, most int, want api.Errno) {
	t.Helper()
	if msg, wrong, e := c.Decode(shares, most); e != want || len(msg) != 0 || len(wrong) != 0 {
		t.Errorf("Decode of %v, %d: %v, %v, %d, want the error %d", shares, most, msg, wrong, e, want)
	}
}

// changed returns the shares, of which those at some indices are wrong in one of several ways.
func (x shape) changed(shares []api.Symbols, at []int, way int) []api.Symbols {
	var out []api.Symbols
	for _, s := range shares {
		out = append(out, symbol(s.Node, s.Data[0]))
	}
	var other []byte
	if way%5 == 3 {
		other = x.shares(mixed(way, x.k))
	}
	for _, index := range at {
		data := out[index].Data
		kept := data[0]
		switch way % 5 {
		case 0: // by something that depends on the share
			data[0] ^= byte(index + way + 1)
		case 1: // by one bit
			data[0] ^= 128
		case 2: // to the same byte for all
			data[0] = byte(way)
		case 3: // to those of one other message
			data[0] = other[out[index].Node]
		case 4: // to nothing
			data[0] = 0
		}
		if data[0] == kept {
			data[0]++
		}
	}
	return out
}

// P12.5, P12.8: each choice of wrong shares up to t, in several ways, of all shares, and of just enough, in any order.
func TestDecode(t *testing.T) {
	for _, x := range small() {
		c := made(t, field.New(), x)
		msg := mixed(x.n, x.k)
		all := x.shares(msg)
		for most := range x.most() + 1 {
			for seed, nodes := range orders(most, x.n) {
				if seed%2 == 1 {
					nodes = nodes[:x.tells()+2*most]
				}
				told := picked(all, nodes)
				for count := range most + 1 {
					for i, at := range choices(len(nodes), count) {
						decodes(t, c, x.changed(told, at, i+seed), most, msg, nodesAt(told, at))
					}
				}
			}
		}
	}
}

// P12.5, P12.8: messages of all kinds, without wrong shares and with some.
func TestDecodeMessages(t *testing.T) {
	for _, x := range all() {
		c := made(t, nil, x)
		for i, msg := range messages(x.k) {
			told := picked(x.shares(msg), shuffled(i, x.n))
			decodes(t, c, told[:x.tells()], 0, msg, nil)
			decodes(t, c, told, 0, msg, nil)
			if x.most() > 0 {
				at := []int{i % (x.tells() + 2)}
				decodes(t, c, x.changed(told[:x.tells()+2], at, i), 1, msg, nodesAt(told, at))
				decodes(t, c, x.changed(told, at, i+1), 1, msg, nodesAt(told, at))
			}
		}
	}
}

// P12.5: one wrong share, whichever it is: of just enough shares, and of one that is more than t can be wrong, with as many others as may be, and with one other more than Tells less one.
func TestDecodeEachShare(t *testing.T) {
	for _, x := range small() {
		c := made(t, nil, x)
		msg := mixed(x.k, x.k)
		all := x.shares(msg)
		for node := range x.n {
			nodes := append(besides(shuffled(node, x.n), node), node)
			slices.Reverse(nodes[x.n-2:])
			shares := picked(all, nodes)
			shares[x.n-2].Data[0] ^= byte(node*11 + 1)
			if x.most() > 0 {
				decodes(t, c, shares[x.n-x.tells()-2:], 1, msg, []int{node})
			}
			for count := x.tells() + 1; count <= x.n; count++ {
				decodesNot(t, c, shares[x.n-count:], 0, api.ErrLost)
			}
		}
	}
}

// P12.8: any Tells nodes determine the message, in any order.
func TestDecodeAnyNodes(t *testing.T) {
	for _, x := range small() {
		c := made(t, nil, x)
		msg := mixed(x.r, x.k)
		all := x.shares(msg)
		for _, nodes := range choices(x.n, x.tells()) {
			decodes(t, c, picked(all, nodes), 0, msg, nil)
			slices.Reverse(nodes)
			decodes(t, c, picked(all, nodes), 0, msg, nil)
		}
	}
}

// P12.5, P12.8: codes at the limits, with as many wrong shares as can be, and fewer, of all nodes and of just enough.
func TestDecodeLarge(t *testing.T) {
	for i, x := range large() {
		c := made(t, field.New(), x)
		msg := mixed(x.n, x.k)
		all := x.shares(msg)
		for way := range 5 {
			most := x.most() * (way + 1) / 5
			nodes := shuffled(i+way, x.n)
			if way%2 == 0 {
				nodes = nodes[:x.tells()+2*most]
			}
			at := shuffled(way, len(nodes))[:most]
			told := picked(all, nodes)
			decodes(t, c, x.changed(told, at, way), most, msg, nodesAt(told, at))
			decodes(t, c, x.changed(told, at[:most/2], way), most, msg, nodesAt(told, at[:most/2]))
			decodesNot(t, c, told[:x.tells()+2*most-1], most, api.ErrFew)
			if most > 0 {
				decodesNot(t, c, x.changed(told, at, way), most-1, api.ErrLost)
			}
		}
	}
}

// P12.5: a whole group, or more, is wrong, if t is as great.
func TestDecodeGroups(t *testing.T) {
	for _, x := range all() {
		c := made(t, nil, x)
		msg := mixed(x.k+1, x.k)
		told := picked(x.shares(msg), upTo(x.n))
		for first := 0; first < x.n; first += (x.r + 1) * (1 + x.n/30) {
			for count := x.r; count <= min(2*x.r+2, x.n-first); count++ {
				at := upTo(first + count)[first:]
				bad := x.changed(told, at, first)
				if count <= x.most() {
					decodes(t, c, bad, x.most(), msg, at)
					decodesNot(t, c, bad, count-1, api.ErrLost)
				}
			}
		}
	}
}

// P12.5: whatever the shares, compared with all choices of wrong ones.
func TestDecodeAnything(t *testing.T) {
	lost, told := 0, 0
	for _, x := range append(small(), shape{12, 4, 2}, shape{15, 10, 2}, shape{15, 8, 4}, shape{15, 14, 14}) {
		c := made(t, field.New(), x)
		for seed := range 60 {
			for most := range min(x.most(), 3) + 1 {
				nodes := shuffled(seed, x.n)
				nodes = nodes[:len(nodes)-seed%(x.n-x.tells()-2*most+1)]
				shares := picked(x.shares(mixed(seed, x.k)), nodes)
				count := min(most+seed%3, len(nodes))
				shares = x.changed(shares, shuffled(seed+1, len(nodes))[:count], seed/2)
				if seed%7 == 0 {
					shares = x.changed(shares, upTo(len(nodes)), 0)
				}
				if msg, wrong, ok := x.nearest(shares, most); ok {
					told++
					decodes(t, c, shares, most, msg, wrong)
				} else {
					lost++
					decodesNot(t, c, shares, most, api.ErrLost)
				}
			}
		}
	}
	if lost < 500 || told < 500 {
		t.Errorf("%d were lost, %d told", lost, told)
	}
}

// P12.5: the values of a polynomial of Tells coefficients of which one that no message has is not 0 are shares of no message, whichever are there: they are lost, unless some other message is near.
func TestDecodeNoMessage(t *testing.T) {
	for _, x := range append(small(), shape{15, 10, 2}, shape{12, 4, 2}, shape{15, 8, 4}) {
		c := made(t, nil, x)
		for power := range x.tells() {
			polynomial := mixed(power, x.tells())
			for i := range polynomial {
				if i%(x.r+1) == x.r {
					polynomial[i] = 0
				}
			}
			var msg []byte
			for _, power := range x.powers() {
				msg = append(msg, polynomial[power])
			}
			if decodes(t, c, picked(x.values(polynomial), upTo(x.n)), 0, msg, nil); power%(x.r+1) != x.r {
				continue
			}
			polynomial[power] = byte(power + 3)
			for most := range x.most() + 1 {
				for seed, nodes := range orders(power, x.n) {
					if seed%2 == 1 {
						nodes = nodes[:x.tells()+2*most]
					}
					shares := picked(x.values(polynomial), nodes)
					decodesNot(t, c, shares, most, api.ErrLost)
					decodesNot(t, c, x.changed(shares, upTo(most), seed), most, api.ErrLost)
				}
			}
		}
	}
}

// P12.5: codes at the limits, and shares of no message.
func TestDecodeNoMessageLarge(t *testing.T) {
	for i, x := range large() {
		c := made(t, nil, x)
		for power := x.r; power < x.tells(); power += (x.r + 1) * (1 + x.tells()/(x.r+1)/4) {
			polynomial := make([]byte, x.tells())
			polynomial[power] = byte(i + 1)
			shares := picked(x.values(polynomial), shuffled(power, x.n))
			decodesNot(t, c, shares, 0, api.ErrLost)
			decodesNot(t, c, shares[:x.tells()], 0, api.ErrLost)
			decodesNot(t, c, shares, min(x.most(), 3), api.ErrLost)
		}
	}
}

// P12.5: shares between those of two messages that have as many in common as two can, if one block of R bytes has all of them.
func TestDecodeBetween(t *testing.T) {
	for _, x := range []shape{{6, 2, 2}, {9, 2, 2}, {15, 2, 2}, {10, 4, 4}, {15, 4, 4}, {45, 14, 14}, {51, 16, 16}} {
		c := made(t, nil, x)
		root := []byte{5} // of K coefficients, and 0 at the points of the first K - 1 nodes
		for node := range x.k - 1 {
			next := append([]byte{0}, root...)
			addTimes(next, root, x.point(node))
			root = next
		}
		first, second := mixed(1, x.k), mixed(1, x.k)
		addTimes(second, root, 1)
		one, two := x.shares(first), x.shares(second)
		apart := x.n - x.k + 1
		for count := range apart + 1 { // so many nodes have what they have for the second message
			split := x.n - count
			shares := picked(slices.Concat(one[:split], two[split:]), upTo(x.n))
			for most := range x.most() + 1 {
				switch {
				case count <= most:
					decodes(t, c, shares, most, first, upTo(x.n)[split:])
				case apart-count <= most:
					decodes(t, c, shares, most, second, upTo(x.n)[x.k-1:split])
				default: // each other message has at most twice K - 1 of the shares, which is too few for all of these codes
					decodesNot(t, c, shares, most, api.ErrLost)
				}
			}
		}
	}
}

// P12.5: all shares of a small set in each combination.
func TestDecodeEachCombination(t *testing.T) {
	x := shape{6, 2, 2}
	c := made(t, nil, x)
	kinds := []byte{0, 1, 7}
	for choice := range 729 {
		var shares []api.Symbols
		for node := range x.n {
			shares = append(shares, symbol(node, kinds[choice%3]))
			choice /= 3
		}
		for most := range 3 {
			if msg, wrong, ok := x.nearest(shares, most); ok {
				decodes(t, c, shares, most, msg, wrong)
			} else {
				decodesNot(t, c, shares, most, api.ErrLost)
			}
		}
	}
}

// tries are numbers t: small ones, and huge ones, some of which are small if they are doubled beyond an int.
func tries(n, tells int) []int {
	return []int{0, 1, 2, n, 255, 256, 1 << 31, 1 << 32, 1 << 62, 1<<62 + 1, math.MaxInt / 2, math.MaxInt/2 + 1, math.MaxInt, math.MaxInt - tells, (math.MaxInt - tells) / 2, (math.MaxInt-tells)/2 + 1}
}

// below are numbers t below 0.
func below(tells int) []int {
	return []int{-1, -2, -tells, -256, math.MinInt, math.MinInt + 1, -1 << 62, -1<<62 - 1}
}

// P12.5: exactly Tells plus twice t shares, one fewer, and none; and a huge t.
func TestDecodeFew(t *testing.T) {
	for _, x := range all() {
		c := made(t, nil, x)
		msg := mixed(x.n, x.k)
		all := picked(x.shares(msg), shuffled(2, x.n))
		for _, most := range tries(x.n, x.tells()) {
			enough := math.MaxInt
			if most < 1000 {
				enough = x.tells() + 2*most
			}
			for _, count := range []int{0, 1, x.k - 1, x.k, x.tells() - 1, x.tells(), enough - 2, enough - 1, x.n} {
				if count >= 0 && count < enough && count <= x.n {
					decodesNot(t, c, all[:count], most, api.ErrFew)
				}
			}
			if enough <= x.n {
				decodes(t, c, all[:enough], most, msg, nil)
			}
			decodesNot(t, c, nil, most, api.ErrFew)
			decodesNot(t, c, []api.Symbols{}, most, api.ErrFew)
		}
	}
}

// P12.5: wrong arguments, also where another error would hold.
func TestDecodeWrongArguments(t *testing.T) {
	for _, x := range all() {
		c := made(t, nil, x)
		all := x.shares(mixed(x.n, x.k))
		for _, count := range []int{1, x.tells(), x.n} {
			nodes := shuffled(count, x.n)[:count]
			for _, most := range []int{0, 1, math.MaxInt} {
				for _, change := range wrongSymbols(x.n) {
					decodesNot(t, c, change(picked(all, nodes)), most, api.ErrArg)
				}
			}
			for _, most := range below(x.tells()) {
				decodesNot(t, c, picked(all, nodes), most, api.ErrArg)
				decodesNot(t, c, nil, most, api.ErrArg)
			}
		}
	}
}
