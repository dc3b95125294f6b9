package msr

import (
	"bytes"
	"math"
	"slices"
	"testing"

	"starfish/api"
	"starfish/field"
)

// decodes reports a result of Decode that is not this message, and these nodes.
func decodes(t *testing.T, c *Code, shares []api.Symbols, most int, msg []byte, nodes []int) {
	t.Helper()
	got, wrong, e := c.Decode(shares, most)
	if e != api.OK || !bytes.Equal(got, msg) || !slices.Equal(wrong, nodes) {
		t.Errorf("Decode of %v, %d: %v, %v, %d, want %v, %v", shares, most, got, wrong, e, msg, nodes)
	}
}

// decodesNot reports a result of Decode that is not this error alone.
func decodesNot(t *testing.T, c *Code, shares []api.Symbols, most int, want api.Errno) {
	t.Helper()
	if msg, wrong, e := c.Decode(shares, most); e != want || len(msg) != 0 || len(wrong) != 0 {
		t.Errorf("Decode of %v, %d: %v, %v, %d, want the error %d", shares, most, msg, wrong, e, want)
	}
}

// between returns a polynomial of Alpha coefficients that is 0 at these points, as far as there may be so many.
func between(xs []byte, alpha int) []byte {
	out := make([]byte, alpha)
	out[0] = 1
	for i, x := range xs {
		if i == alpha-1 {
			break
		}
		for j := alpha - 1; j >= 0; j-- {
			out[j] = products[out[j]][x]
			if j > 0 {
				out[j] ^= out[j-1]
			}
		}
	}
	return out
}

// changed returns the shares, of which those at some indices are wrong in one of several ways.
func (m model) changed(shares []api.Symbols, at []int, way int) []api.Symbols {
	var out []api.Symbols
	for _, s := range shares {
		out = append(out, one(s.Node, bytes.Clone(s.Data)...))
	}
	other := m.shares(bytes.Repeat([]byte{byte(way*31 + 5)}, m.b()))
	for i, index := range at {
		data, node := out[index].Data, out[index].Node
		kept := bytes.Clone(data)
		switch way % 6 {
		case 0: // one byte, at the beginning or at the end
			data[0] ^= byte(index + 1)
		case 1:
			data[len(data)-1] ^= 128
		case 2: // all bytes
			for j, b := range mixed(index+way, len(data)) {
				data[j] ^= b | 1
			}
		case 3: // by what is 0 at the points of other nodes, or of virtual places
			var xs []byte
			for j := range m.alpha() - 1 {
				xs = append(xs, m.point((i*(m.alpha()-1)+j+way/6)%(m.n+m.virtual())))
			}
			for j, b := range between(xs, m.alpha()) {
				data[j] ^= products[b][77]
			}
		case 4: // all of one other message
			copy(data, other[node])
		case 5: // nothing
			clear(data)
		}
		if bytes.Equal(kept, data) {
			data[0]++
		}
	}
	return out
}

// P9.6, P9.8: each choice of wrong shares up to t, in several ways, of all shares, and of just enough, in any order.
func TestDecode(t *testing.T) {
	for _, x := range small() {
		m, c := modelOf(t, x), made(t, field.New(), x)
		msg := mixed(x.n, x.b())
		all := m.shares(msg)
		for most := 0; x.k+2*most <= x.n; most++ {
			for seed, nodes := range [][]int{upTo(x.n), downFrom(x.n), shuffled(most, x.n), shuffled(most+9, x.n)} {
				if seed%2 == 1 {
					nodes = nodes[:x.k+2*most]
				}
				told := picked(all, nodes)
				for count := range most + 1 {
					for i, at := range choices(len(nodes), count) {
						decodes(t, c, m.changed(told, at, i+seed), most, msg, nodesAt(told, at))
					}
				}
			}
		}
	}
}

// P9.6, P9.8: messages of all kinds, without wrong shares and with some.
func TestDecodeMessages(t *testing.T) {
	for _, x := range append(small(), large()...) {
		m, c := modelOf(t, x), made(t, nil, x)
		for i, msg := range messages(x.b()) {
			told := picked(m.shares(msg), shuffled(i, x.n))
			decodes(t, c, told[:x.k], 0, msg, nil)
			decodes(t, c, told, 0, msg, nil)
			if x.k+2 <= x.n {
				at := []int{i % (x.k + 2)}
				decodes(t, c, m.changed(told[:x.k+2], at, i), 1, msg, nodesAt(told, at))
				decodes(t, c, m.changed(told, at, i+1), 1, msg, nodesAt(told, at))
			}
		}
	}
}

// P9.6: the wrong share of each node, also of the last one, where it would be trusted.
func TestDecodeEachNode(t *testing.T) {
	for _, x := range append(small(), large()...) {
		m, c := modelOf(t, x), made(t, field.New(), x)
		if x.k+2 > x.n {
			continue
		}
		msg := mixed(x.k, x.b())
		all := m.shares(msg)
		for _, node := range []int{0, 1, x.k - 1, x.k, x.n - 2, x.n - 1} {
			nodes := append([]int{node}, besides(shuffled(node, x.n), node)...)[:x.k+2]
			for way := range 6 {
				decodes(t, c, m.changed(picked(all, nodes), []int{0}, way), 1, msg, []int{node})
			}
		}
	}
}

// P9.8: any K nodes determine the message, in any order.
func TestDecodeAnyNodes(t *testing.T) {
	for _, x := range small() {
		m, c := modelOf(t, x), made(t, nil, x)
		msg := mixed(x.d, x.b())
		all := m.shares(msg)
		for _, nodes := range choices(x.n, x.k) {
			decodes(t, c, picked(all, nodes), 0, msg, nil)
			slices.Reverse(nodes)
			decodes(t, c, picked(all, nodes), 0, msg, nil)
		}
	}
}

// P9.6, P9.8: codes at the limits, with many wrong shares.
func TestDecodeLarge(t *testing.T) {
	for i, x := range large() {
		m, c := modelOf(t, x), made(t, field.New(), x)
		msg := mixed(x.n, x.b())
		all := m.shares(msg)
		for way := range 6 {
			most := min((x.n-x.k)/2, 12)
			nodes := shuffled(i+way, x.n)
			if way%2 == 0 {
				nodes = nodes[:x.k+2*most]
			}
			at := shuffled(way, len(nodes))[:most]
			if way == 0 { // those that would be trusted
				at = upTo(most)
			}
			told := picked(all, nodes)
			decodes(t, c, m.changed(told, at, way), most, msg, nodesAt(told, at))
			decodes(t, c, m.changed(told, at[:most/2], way), most, msg, nodesAt(told, at[:most/2]))
			if len(nodes) >= x.k+2*most { // one more than may be
				decodesNot(t, c, m.changed(told, at, way)[:x.k+2*most-1], most, api.ErrFew)
			}
		}
	}
}

// P9.6: as many wrong shares as there can be.
func TestDecodeMost(t *testing.T) {
	for _, x := range []shape{{255, 2, 2}, {84, 4, 6}, {60, 2, 3}, {47, 2, 6}, {61, 17, 32}, {60, 9, 24}} {
		m, c := modelOf(t, x), made(t, field.New(), x)
		msg := mixed(x.n, x.b())
		most := min((x.n-x.k)/2, 40)
		nodes := shuffled(3, x.n)[:x.k+2*most]
		told := picked(m.shares(msg), nodes)
		for i, at := range [][]int{upTo(len(nodes))[:most], shuffled(5, len(nodes))[:most]} {
			decodes(t, c, m.changed(told, at, 2+i), most, msg, nodesAt(told, at))
		}
		decodesNot(t, c, m.changed(told, shuffled(5, len(nodes))[:most+1], 2), most, api.ErrLost)
	}
}

// P9.6: whatever the shares, compared with all choices of wrong ones.
func TestDecodeAnything(t *testing.T) {
	lost, told := 0, 0
	for _, x := range small() {
		m, c := modelOf(t, x), made(t, field.New(), x)
		if x.n == 9 && x.k == 2 {
			continue
		}
		for seed := range 36 {
			for most := 0; x.k+2*most <= x.n; most++ {
				nodes := shuffled(seed, x.n)
				nodes = nodes[:len(nodes)-seed%(x.n-x.k-2*most+1)]
				shares := picked(m.shares(mixed(seed, x.b())), nodes)
				count := min(most+seed%3, len(nodes))
				shares = m.changed(shares, shuffled(seed+1, len(nodes))[:count], seed/2)
				if seed%7 == 0 {
					shares = m.changed(shares, upTo(len(nodes)), 2)
				}
				msg, wrong, ok := m.nearest(shares, most)
				if ok {
					told++
					decodes(t, c, shares, most, msg, wrong)
				} else {
					lost++
					decodesNot(t, c, shares, most, api.ErrLost)
				}
			}
		}
	}
	if lost < 500 || told < 500 {
		t.Errorf("%d were lost, %d told", lost, told)
	}
}

// P9.6: shares of a code of one byte each, all of a small set in each combination, compared with the shares of all messages.
func TestDecodeEachCombination(t *testing.T) {
	x := shape{4, 2, 2}
	m, c := modelOf(t, x), made(t, nil, x)
	kinds := []byte{0, 1, 2, 7}
	var words [1 << 16][4]byte
	for i := range words {
		words[i] = [4]byte(slices.Concat(m.shares([]byte{byte(i), byte(i >> 8)})...))
	}
	for choice := range 1 << (2 * x.n) {
		var ys [4]byte
		for i := range ys {
			ys[i] = kinds[choice>>(2*i)&3]
		}
		best, fewest := 0, x.n+1
		for i, word := range words {
			count := 0
			for node := range word {
				if word[node] != ys[node] {
					count++
				}
			}
			if count < fewest {
				best, fewest = i, count
			}
		}
		var wrong []int
		for node := range ys {
			if words[best][node] != ys[node] {
				wrong = append(wrong, node)
			}
		}
		shares := []api.Symbols{one(0, ys[0]), one(1, ys[1]), one(2, ys[2]), one(3, ys[3])}
		for most := range 2 {
			if len(wrong) <= most {
				decodes(t, c, shares, most, []byte{byte(best), byte(best >> 8)}, wrong)
			} else {
				decodesNot(t, c, shares, most, api.ErrLost)
			}
		}
	}
}

// P9.6: shares between those of two messages that have as many in common as two can.
func TestDecodeBetween(t *testing.T) {
	for _, x := range append(small(), shape{40, 2, 17}, shape{33, 5, 10}) {
		m, c := modelOf(t, x), made(t, nil, x)
		first := mixed(1, x.b())
		second := bytes.Clone(first)
		second[x.b()-1] ^= 9 // so the first K - 1 nodes store the same
		one, two := m.shares(first), m.shares(second)
		if x.alpha() == 1 {
			for node := x.k - 1; node < x.n; node++ {
				if bytes.Equal(one[node], two[node]) {
					t.Fatalf("%v: the node %d stores the same", x, node)
				}
			}
		}
		apart := x.n - x.k + 1
		for count := range apart + 1 { // so many nodes store what they store for the second message
			split := x.n - count
			shares := picked(slices.Concat(one[:split], two[split:]), upTo(x.n))
			fromFirst, fromSecond := upTo(x.n)[split:], upTo(x.n)[x.k-1:split]
			for most := 0; x.k+2*most <= x.n; most++ {
				switch {
				case count <= most:
					decodes(t, c, shares, most, first, fromFirst)
				case apart-count <= most:
					decodes(t, c, shares, most, second, fromSecond)
				default: // so far from the first one that no other one is near
					decodesNot(t, c, shares, most, api.ErrLost)
				}
			}
		}
	}
}

// hidden returns a difference of two messages' shares as polynomials (a list for each place): so that what the places wrong store differs, at the points of spared, by 0; and what places of agreed store differs, at the points of wrong, by 0.
func (x shape) hidden(t *testing.T, wrong []int, spared, agreed map[int][]int, seed int) [][]byte {
	t.Helper()
	alpha := x.alpha()
	unknowns := alpha * (alpha + 1)
	at := func(from, to int) []byte { // the coefficients of what from stores, at the point of to
		sum := make([]byte, unknowns)
		for c := range alpha {
			factor := power(x.point(to), c)
			for i, b := range x.equation(from, c) {
				sum[i] ^= products[factor][b]
			}
		}
		return sum
	}
	var rows [][]byte
	for _, one := range wrong {
		for _, other := range spared[one] {
			rows = append(rows, at(one, other))
		}
		for _, other := range agreed[one] {
			rows = append(rows, at(other, one))
		}
	}
	leads := reduced(rows, unknowns)
	entries := mixed(seed, unknowns) // those of columns without a lead are free
	for i, lead := range leads {
		entries[lead] = 0
		entries[lead] = sumOf(rows[i], entries)
	}
	var out [][]byte
	for place := range x.virtual() + x.n {
		share := make([]byte, alpha)
		for c := range share {
			share[c] = sumOf(x.equation(place, c), entries)
		}
		out = append(out, share)
	}
	return out
}

// P9.6: two wrong shares, in agreement with each other, so that each right one shows only one of them, and enough right ones seem to agree with each.
func TestDecodeHidden(t *testing.T) {
	x := shape{17, 9, 16} // Alpha 8, no virtual places
	m, c := modelOf(t, x), made(t, nil, x)
	for seed := range 30 {
		at := shuffled(seed, x.n)
		slices.Sort(at[:2])
		wrong, right := at[:2], at[2:13]
		spared := map[int][]int{wrong[0]: right[:5], wrong[1]: right[5:]}
		agreed := map[int][]int{wrong[0]: right[2:], wrong[1]: right[:9]}
		difference := x.hidden(t, wrong, spared, agreed, seed)
		msg := mixed(seed, x.b())
		all := m.shares(msg)
		for _, node := range wrong {
			if bytes.Equal(difference[node], make([]byte, x.alpha())) {
				t.Fatalf("%d: the share of %d is not wrong", seed, node)
			}
			for i := range all[node] {
				all[node][i] ^= difference[node][i]
			}
		}
		late := slices.Concat(right[:4], wrong, right[4:])
		apart := slices.Concat(wrong[1:], right[:3], right[5:10], wrong[:1], right[3:5], right[10:])
		for _, nodes := range [][]int{at[:13], late, apart} {
			decodes(t, c, picked(all, nodes), 2, msg, wrong)
			decodes(t, c, picked(all, append(slices.Clone(nodes), at[13:]...)), 3, msg, wrong)
			decodesNot(t, c, picked(all, nodes[:12]), 2, api.ErrFew)
			decodesNot(t, c, picked(all, nodes), 1, api.ErrLost)
		}
	}
}

// P9.6: exactly K plus twice t shares, one fewer, and none; and a huge t.
func TestDecodeFew(t *testing.T) {
	for _, x := range append(small(), large()...) {
		m, c := modelOf(t, x), made(t, nil, x)
		msg := mixed(x.n, x.b())
		all := picked(m.shares(msg), shuffled(2, x.n))
		for _, most := range []int{0, 1, 2, x.n, 255, 256, 1 << 31, 1 << 32, 1 << 62, 1<<62 + 1, math.MaxInt / 2, math.MaxInt/2 + 1, math.MaxInt, math.MaxInt - x.k, (math.MaxInt - x.k) / 2, (math.MaxInt-x.k)/2 + 1} {
			enough := math.MaxInt
			if most < 1000 {
				enough = x.k + 2*most
			}
			for _, count := range []int{0, 1, x.k - 1, x.k, enough - 2, enough - 1, x.n} {
				if count >= 0 && count < enough && count <= x.n {
					decodesNot(t, c, all[:count], most, api.ErrFew)
				}
			}
			if enough <= x.n {
				decodes(t, c, all[:enough], most, msg, nil)
			}
			decodesNot(t, c, nil, most, api.ErrFew)
			decodesNot(t, c, []api.Symbols{}, most, api.ErrFew)
		}
	}
}

// P9.6: wrong arguments, also where another error would hold.
func TestDecodeWrongArguments(t *testing.T) {
	for _, x := range append(small(), large()...) {
		m, c := modelOf(t, x), made(t, nil, x)
		all := m.shares(mixed(x.n, x.b()))
		for _, count := range []int{1, x.k - 1, x.k, x.n} {
			nodes := shuffled(count, x.n)[:count]
			for _, most := range []int{0, 1, 1000, math.MaxInt} {
				for _, change := range wrongSymbols(x.n, x.alpha()) {
					decodesNot(t, c, change(picked(all, nodes)), most, api.ErrArg)
				}
			}
			for _, most := range []int{-1, -2, -x.k, -256, math.MinInt, math.MinInt + 1, -1 << 62, -1<<62 - 1} {
				decodesNot(t, c, picked(all, nodes), most, api.ErrArg)
				decodesNot(t, c, nil, most, api.ErrArg)
			}
		}
	}
}
