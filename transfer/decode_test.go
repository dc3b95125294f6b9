package transfer_test

import (
	"bytes"
	"slices"
	"testing"

	"starfish/api"
	"starfish/field"
	"starfish/transfer"
)

// decodes reports a result of Decode that is not this message.
func decodes(t *testing.T, c *transfer.Code, shares []api.Symbols, msg []byte) {
	t.Helper()
	if got, e := c.Decode(shares); e != api.OK || !bytes.Equal(got, msg) {
		t.Errorf("Decode of %v: %v, %d, want %v", shares, got, e, msg)
	}
}

// decodesNot reports a result of Decode that is not this error alone.
func decodesNot(t *testing.T, c *transfer.Code, shares []api.Symbols, want api.Errno) {
	t.Helper()
	if msg, e := c.Decode(shares); e != want || len(msg) != 0 {
		t.Errorf("Decode of %v: %v, %d, want the error %d", shares, msg, e, want)
	}
}

// P11.6, P11.8: any K nodes, or more, determine the message, in any order.
func TestDecode(t *testing.T) {
	for _, x := range small() {
		c := made(t, field.New(), x)
		msg := mixed(x.n, x.b())
		shares := x.shares(msg)
		for count := x.k; count <= x.n; count++ {
			for seed, nodes := range choices(x.n, count) {
				decodes(t, c, picked(shares, nodes), msg)
				slices.Reverse(nodes)
				decodes(t, c, picked(shares, nodes), msg)
				mixed := []int{}
				for _, i := range shuffled(seed, count) {
					mixed = append(mixed, nodes[i])
				}
				decodes(t, c, picked(shares, mixed), msg)
			}
		}
	}
}

// P11.6, P11.8: messages of all kinds, also by codes at the limits.
func TestDecodeMessages(t *testing.T) {
	for _, x := range all() {
		c := made(t, nil, x)
		for i, msg := range messages(x.b()) {
			shares := x.shares(msg)
			for _, nodes := range orders(i, x.n) {
				for _, count := range []int{x.k, (x.k + x.n) / 2, x.n} {
					decodes(t, c, picked(shares, nodes[:count]), msg)
				}
			}
		}
	}
}

// P11.6: one changed byte, wherever it is: there is still a message if it is of an edge with none of the others, and there are just K.
func TestDecodeEachByte(t *testing.T) {
	for _, x := range small() {
		c := made(t, nil, x)
		msg := mixed(x.k, x.b())
		shares := x.shares(msg)
		for count := x.k; count <= x.n; count++ {
			nodes := shuffled(count, x.n)[:count]
			for at, node := range nodes {
				for i, other := range x.others(node) {
					told := picked(shares, nodes)
					told[at].Data[i] ^= byte(at*7 + i + 1)
					if count > x.k || slices.Contains(nodes, other) {
						decodesNot(t, c, told, api.ErrLost)
						continue
					}
					want, ok := x.told(told)
					if !ok || bytes.Equal(want, msg) {
						t.Fatalf("%v: no other message", x)
					}
					decodes(t, c, told, want)
				}
			}
		}
	}
}

// P11.6: shares that are equal at their edges, but may be of no message: with K of them there is one; with more, none, if a byte was changed.
func TestDecodeChangedEdge(t *testing.T) {
	for _, x := range small() {
		c := made(t, nil, x)
		word := x.word(mixed(x.k, x.b()))
		for place, edge := range x.edges() {
			changed := bytes.Clone(word)
			changed[place] ^= byte(place + 1)
			shares := x.stored(changed)
			for count := x.k; count <= x.n; count++ {
				nodes := shuffled(count+place, x.n)[:count]
				told := picked(shares, nodes)
				want, ok := x.told(told)
				if ok {
					decodes(t, c, told, want)
				} else {
					decodesNot(t, c, told, api.ErrLost)
				}
				known := slices.Contains(nodes, edge[0]) || slices.Contains(nodes, edge[1])
				full := x.b() == len(x.edges()) // each word is that of a message
				if ok != (full || count == x.k || !known) {
					t.Errorf("%v, %v changed, %v told: a message: %v", x, edge, nodes, ok)
				}
			}
		}
	}
}

// P11.6: whatever the shares, compared with the solutions of their equations.
func TestDecodeAnything(t *testing.T) {
	lost, told := 0, 0
	for _, x := range all() {
		seeds := 24
		if x.n > 8 {
			seeds = 6
		}
		c := made(t, field.New(), x)
		for seed := range seeds {
			nodes := shuffled(seed, x.n)[:x.k+seed%(x.n-x.k+1)]
			word := x.word(mixed(seed, x.b()))
			switch seed % 3 {
			case 1: // bytes of no message, perhaps
				word = mixed(seed, len(word))
			case 2:
				word[seed%len(word)]++
			}
			shares := picked(x.stored(word), nodes)
			if seed%4 == 3 { // two shares may differ
				shares[seed%len(shares)].Data[seed%x.alpha()] ^= 64
			}
			if msg, ok := x.told(shares); ok {
				told++
				decodes(t, c, shares, msg)
			} else {
				lost++
				decodesNot(t, c, shares, api.ErrLost)
			}
		}
	}
	if lost < 150 || told < 150 {
		t.Errorf("%d were lost, %d told", lost, told)
	}
}

// P11.6: shares that differ in one byte, in all combinations of a small set.
func TestDecodeEachCombination(t *testing.T) {
	x := shape{3, 2} // each word is that of a message
	c := made(t, nil, x)
	kinds := []byte{0, 1, 7}
	for choice := range 729 {
		var shares []api.Symbols
		for node := range x.n {
			shares = append(shares, symbol(node, kinds[choice%3], kinds[choice/3%3]))
			choice /= 9
		}
		for _, nodes := range [][]int{{0, 1}, {2, 1}, {2, 0}, {0, 1, 2}, {1, 2, 0}} {
			var some []api.Symbols
			for _, node := range nodes {
				some = append(some, shares[node])
			}
			if want, ok := x.told(some); ok {
				decodes(t, c, some, want)
			} else {
				decodesNot(t, c, some, api.ErrLost)
			}
		}
	}
}

// P11.6: fewer than K, also if they differ.
func TestDecodeFew(t *testing.T) {
	for _, x := range all() {
		c := made(t, nil, x)
		shares := x.shares(mixed(x.n, x.b()))
		for count := range x.k {
			for _, nodes := range orders(count, x.n) {
				told := picked(shares, nodes[:count])
				decodesNot(t, c, told, api.ErrFew)
				for i := range told {
					spoil(told[i].Data)
					decodesNot(t, c, told, api.ErrFew)
				}
			}
		}
		decodesNot(t, c, nil, api.ErrFew)
		decodesNot(t, c, []api.Symbols{}, api.ErrFew)
	}
}

// P11.6: wrong arguments, also where another error would hold.
func TestDecodeWrongArguments(t *testing.T) {
	for _, x := range all() {
		c := made(t, nil, x)
		shares := x.shares(mixed(x.n, x.b()))
		for _, count := range []int{1, x.k, x.n} {
			nodes := shuffled(count, x.n)[:count]
			for _, change := range wrongSymbols(x.n, x.alpha()) {
				decodesNot(t, c, change(picked(shares, nodes)), api.ErrArg)
				told := picked(shares, nodes)
				told[0].Data[0]++
				decodesNot(t, c, change(told), api.ErrArg)
			}
		}
	}
}
