package msr

import (
	"bytes"
	"math"
	"slices"
	"sync"
	"testing"

	"starfish/api"
	"starfish/field"
)

// one is what a node has, or sends.
func one(node int, data ...byte) api.Symbols { return api.Symbols{Node: node, Data: data} }

// Examples.
func TestExamples(t *testing.T) {
	for _, f := range []*field.Field{field.New(), nil, {}} {
		c := made(t, f, shape{5, 2, 2})
		if all, e := c.Encode([]byte{5, 6}); e != api.OK || !slices.EqualFunc(all, [][]byte{{5}, {6}, {0}, {12}, {20}}, bytes.Equal) {
			t.Errorf("Encode: %v, %d", all, e)
		}
		if b, e := c.Help(1, 0, []byte{6}); b != 6 || e != api.OK {
			t.Errorf("Help: %d, %d", b, e)
		}
		if b, wrong, e := c.Repair(0, []api.Symbols{one(1, 6), one(2, 0)}, 0); !bytes.Equal(b, []byte{5}) || len(wrong) != 0 || e != api.OK {
			t.Errorf("Repair: %v, %v, %d", b, wrong, e)
		}
		if msg, wrong, e := c.Decode([]api.Symbols{one(3, 12), one(4, 20)}, 0); !bytes.Equal(msg, []byte{5, 6}) || len(wrong) != 0 || e != api.OK {
			t.Errorf("Decode: %v, %v, %d", msg, wrong, e)
		}
		for _, x := range []shape{{5, 2, 1}, {3, 2, 3}, {5, 1, 2}} {
			if c, e := New(f, x.n, x.k, x.d); c != nil || e != api.ErrArg {
				t.Errorf("New of %v: %v, %d", x, c, e)
			}
		}
	}
}

// valid is the condition of P9.1, for numbers that are not huge.
func valid(x shape) bool {
	if x.k <= 1 || x.d < 2*x.k-2 || x.n <= x.d || x.alpha() > 16 || x.n+x.virtual() > 255 {
		return false
	}
	var seen [256]bool
	lambda, next := byte(1), power(2, x.alpha())
	for range x.n + x.virtual() {
		if seen[lambda] {
			return false
		}
		seen[lambda] = true
		lambda = products[lambda][next]
	}
	return true
}

// isMade reports a result of New that is not the code, or the error, as it should be.
func isMade(t *testing.T, x shape, want bool) {
	t.Helper()
	c, e := New(nil, x.n, x.k, x.d)
	switch {
	case want && (c == nil || e != api.OK):
		t.Errorf("New of %v: %v, %d", x, c, e)
	case want && (c.Alpha() != x.d-x.k+1 || c.B() != x.k*(x.d-x.k+1)):
		t.Errorf("%v: Alpha %d, B %d", x, c.Alpha(), c.B())
	case !want && (c != nil || e != api.ErrArg):
		t.Errorf("New of %v: %v, %d, want ErrArg", x, c, e)
	}
}

// P9.1, P9.2: all small numbers, and those around 0.
func TestNewSmall(t *testing.T) {
	count := 0
	for n := -3; n <= 26; n++ {
		for k := -3; k <= 16; k++ {
			for d := -5; d <= 27; d++ {
				want := valid(shape{n, k, d})
				isMade(t, shape{n, k, d}, want)
				if want {
					count++
				}
			}
		}
	}
	if count == 0 {
		t.Error("there is no code")
	}
}

// P9.1, P9.2: for each K and D the fewest nodes, the most, and one more; and a D too small, and an Alpha too large.
func TestNewLimits(t *testing.T) {
	for k := 2; k <= 140; k++ {
		for d := 2*k - 4; d <= k+17 || d <= 2*k; d++ {
			most := 0 // nodes
			for n := d; n <= 256; n++ {
				if valid(shape{n, k, d}) {
					most = n
				}
			}
			for _, n := range []int{d, d + 1, most, most + 1, 255, 256} {
				isMade(t, shape{n, k, d}, valid(shape{n, k, d}))
			}
		}
	}
	for _, x := range []shape{{255, 2, 2}, {84, 4, 6}, {85, 4, 6}, {84, 3, 5}, {85, 3, 5}, {51, 6, 10}, {52, 6, 10}, {47, 2, 6}, {48, 2, 6}, {255, 17, 32}, {256, 17, 32}, {240, 2, 17}, {241, 2, 17}, {240, 2, 18}, {17, 2, 16}, {255, 18, 33}, {255, 18, 34}} {
		isMade(t, x, valid(x))
	}
}

// P9.1: huge numbers, some of which are small if they are doubled, or added up, beyond an int.
func TestNewHuge(t *testing.T) {
	huge := []int{math.MaxInt, math.MaxInt - 1, math.MaxInt / 2, math.MaxInt/2 + 1, math.MaxInt/2 + 2, math.MaxInt/2 + 3, math.MinInt, math.MinInt + 1, math.MinInt / 2, math.MinInt/2 - 1, 1 << 32, 1<<32 + 3, 1<<32 + 5, -1 << 32, 256, 257, 258, 261, -251, -253}
	for _, a := range huge {
		for _, x := range []shape{{a, 2, 2}, {5, a, 2}, {5, 2, a}, {a, 3, 5}, {9, a, 5}, {9, 3, a}, {255, a, 254}} {
			isMade(t, x, false)
		}
		for _, b := range huge {
			for _, x := range []shape{{a, b, 2}, {a, 2, b}, {5, a, b}, {255, a, b}} {
				isMade(t, x, false)
			}
			for _, d := range huge {
				isMade(t, shape{a, b, d}, false)
			}
		}
	}
}

// P9.3, P9.8: the shares of the definition, and their sums.
func TestEncode(t *testing.T) {
	for _, x := range append(small(), large()...) {
		m := modelOf(t, x)
		for _, f := range []*field.Field{field.New(), nil, {}} {
			c := made(t, f, x)
			for _, msg := range messages(x.b()) {
				all, e := c.Encode(msg)
				if want := m.shares(msg); e != api.OK || !slices.EqualFunc(all, want, bytes.Equal) {
					t.Fatalf("Encode by %v of %v: %v, %d, want %v", x, msg, all, e, want)
				}
				if !bytes.Equal(slices.Concat(all[:x.k]...), msg) {
					t.Errorf("%v: the first nodes don't store the message %v", x, msg)
				}
			}
		}
	}
}

// P9.3: the matrices, which the definition alone gives: the virtual places store zeros, and each share is phi S1 + lambda phi S2 (a code of Alpha 2, by hand).
func TestEncodeByMatrices(t *testing.T) {
	x := shape{7, 2, 3} // one virtual place
	c := made(t, nil, x)
	for seed := range 20 {
		// For the point 1, phi is 1 1, and lambda 1: 0 = a + b + d + e, 0 = b + c + e + g.
		b := mixed(seed, 4)
		s1, s2 := []byte{b[0], b[1], b[2]}, []byte{b[3], 0, 0}
		s2[1] = s1[0] ^ s1[1] ^ s2[0]
		s2[2] = s1[1] ^ s1[2] ^ s2[1]
		var want [][]byte
		for node := range x.n {
			p := powers(x.ofNode(node), 3)
			want = append(want, []byte{
				s1[0] ^ products[p[1]][s1[1]] ^ products[p[2]][s2[0]^products[p[1]][s2[1]]],
				s1[1] ^ products[p[1]][s1[2]] ^ products[p[2]][s2[1]^products[p[1]][s2[2]]],
			})
		}
		if all, e := c.Encode(slices.Concat(want[:2]...)); e != api.OK || !slices.EqualFunc(all, want, bytes.Equal) {
			t.Errorf("%v, %v: %v, %d, want %v", s1, s2, all, e, want)
		}
	}
}

// P9.3: messages of another length.
func TestEncodeWrongLength(t *testing.T) {
	for _, x := range append(small(), large()...) {
		c := made(t, nil, x)
		for _, size := range []int{0, 1, x.alpha(), x.b() - 1, x.b() + 1, 2 * x.b(), x.b() + 256, 70000} {
			if size == x.b() {
				continue
			}
			if all, e := c.Encode(make([]byte, size)); e != api.ErrArg || len(all) != 0 {
				t.Errorf("Encode by %v of %d bytes: %v, %d", x, size, all, e)
			}
		}
		if all, e := c.Encode(nil); e != api.ErrArg || len(all) != 0 {
			t.Errorf("Encode by %v of nothing: %v, %d", x, all, e)
		}
	}
}

// P9.4: whatever the share, for all pairs of nodes.
func TestHelp(t *testing.T) {
	for _, x := range append(small(), large()...) {
		c := made(t, nil, x)
		for from := range x.n {
			for to := range x.n {
				share := mixed(from*x.n+to, x.alpha())
				b, e := c.Help(from, to, share)
				if from == to {
					if b != 0 || e != api.ErrArg {
						t.Errorf("Help by %v of %d for itself: %d, %d", x, from, b, e)
					}
				} else if want := x.help(to, share); b != want || e != api.OK {
					t.Errorf("Help by %v of %d for %d, %v: %d, %d, want %d", x, from, to, share, b, e, want)
				}
			}
			if x.n > 60 && from > 5 {
				break
			}
		}
	}
}

// outside are numbers of no node.
func outside(n int) []int {
	return []int{-1, -2, -n, -256, math.MinInt, n, n + 1, 256, 257, 1 << 32, 1<<32 + 1, math.MaxInt}
}

// P9.4: no nodes, and shares of another length.
func TestHelpWrongArguments(t *testing.T) {
	for _, x := range append(small(), large()...) {
		c := made(t, nil, x)
		no := func(from, to int, share []byte) {
			t.Helper()
			if b, e := c.Help(from, to, share); b != 0 || e != api.ErrArg {
				t.Errorf("Help by %v of %d for %d, %d bytes: %d, %d", x, from, to, len(share), b, e)
			}
		}
		share := mixed(1, x.alpha())
		for _, node := range outside(x.n) {
			no(node, 0, share)
			no(0, node, share)
			no(node, node, share)
		}
		no(0, 1, nil)
		no(0, 1, share[:x.alpha()-1])
		no(0, 1, append(share, 0))
		no(0, 1, make([]byte, x.alpha()+256))
	}
}

// helpsOf are what all nodes would send to repair one, for these shares; its own is not used.
func (x shape) helpsOf(to int, shares [][]byte) [][]byte {
	var out [][]byte
	for _, share := range shares {
		out = append(out, []byte{x.help(to, share)})
	}
	return out
}

// besides are the numbers but one, in their order.
func besides(numbers []int, one int) []int {
	return slices.DeleteFunc(slices.Clone(numbers), func(i int) bool { return i == one })
}

// repairs reports a result of Repair that is not this share, and these nodes.
func repairs(t *testing.T, c *Code, to int, helps []api.Symbols, most int, share []byte, nodes []int) {
	t.Helper()
	got, wrong, e := c.Repair(to, helps, most)
	if e != api.OK || !bytes.Equal(got, share) || !slices.Equal(wrong, nodes) {
		t.Errorf("Repair of %d from %v, %d: %v, %v, %d, want %v, %v", to, helps, most, got, wrong, e, share, nodes)
	}
}

// repairsNot reports a result of Repair that is not this error alone.
func repairsNot(t *testing.T, c *Code, to int, helps []api.Symbols, most int, want api.Errno) {
	t.Helper()
	if share, wrong, e := c.Repair(to, helps, most); e != want || len(share) != 0 || len(wrong) != 0 {
		t.Errorf("Repair of %d from %v, %d: %v, %v, %d, want the error %d", to, helps, most, share, wrong, e, want)
	}
}

// P9.5, P9.8: the share of each node, from any helpers, in any order, with each number of wrong bytes up to t.
func TestRepair(t *testing.T) {
	for _, x := range small() {
		m, c := modelOf(t, x), made(t, field.New(), x)
		shares := m.shares(mixed(x.n, x.b()))
		for to := range x.n {
			all := x.helpsOf(to, shares)
			for most := 0; x.d+2*most < x.n; most++ {
				for seed, nodes := range [][]int{upTo(x.n), downFrom(x.n), shuffled(to, x.n), shuffled(to+9, x.n)} {
					nodes = besides(nodes, to)
					if seed%2 == 1 {
						nodes = nodes[:x.d+2*most]
					}
					for count := range most + 1 {
						for _, at := range choices(len(nodes), count) {
							helps := picked(all, nodes)
							for _, i := range at {
								helps[i].Data[0] ^= byte(i*57 + seed + 1)
							}
							repairs(t, c, to, helps, most, shares[to], nodesAt(helps, at))
						}
					}
				}
			}
		}
	}
}

// P9.5, P9.8: codes at the limits.
func TestRepairLarge(t *testing.T) {
	for _, x := range large() {
		m, c := modelOf(t, x), made(t, field.New(), x)
		shares := m.shares(mixed(x.n, x.b()))
		for _, to := range []int{0, x.n / 2, x.n - 1} {
			for _, most := range []int{0, 1, (x.n - 1 - x.d) / 2} {
				if x.d+2*most >= x.n {
					continue
				}
				nodes := besides(shuffled(to, x.n), to)[:x.d+2*most]
				helps := picked(x.helpsOf(to, shares), nodes)
				at := shuffled(most, len(nodes))[:most]
				for _, i := range at {
					helps[i].Data[0] += byte(i%255 + 1)
				}
				repairs(t, c, to, helps, most, shares[to], nodesAt(helps, at))
			}
		}
	}
}

// P9.5: whatever the bytes, compared with all choices of wrong ones: also bytes that no message gives, which just enough helpers send.
func TestRepairAnything(t *testing.T) {
	lost := 0
	for _, x := range small() {
		m, c := modelOf(t, x), made(t, field.New(), x)
		for seed := range 60 {
			to := seed % x.n
			for most := 0; x.d+2*most < x.n; most++ {
				nodes := besides(shuffled(seed, x.n), to)
				nodes = nodes[:len(nodes)-seed%(x.n-x.d-2*most)]
				helps := picked(x.helpsOf(to, m.shares(mixed(seed, x.b()))), nodes)
				for i, b := range mixed(seed+1, len(helps)) {
					if int(b)%4 <= seed%5 {
						helps[i].Data[0] = mixed(i, seed+1)[seed]
					}
				}
				share, wrong, ok := x.repaired(to, helps, most)
				if ok {
					repairs(t, c, to, helps, most, share, wrong)
				} else {
					lost++
					repairsNot(t, c, to, helps, most, api.ErrLost)
				}
			}
		}
	}
	if lost == 0 {
		t.Error("no bytes were lost")
	}
}

// P9.5: exactly D plus twice t helpers, one fewer, and none; and a huge t.
func TestRepairFew(t *testing.T) {
	for _, x := range append(small(), large()...) {
		m, c := modelOf(t, x), made(t, nil, x)
		shares := m.shares(mixed(x.n, x.b()))
		helps := picked(x.helpsOf(1, shares), besides(shuffled(2, x.n), 1))
		for _, most := range []int{0, 1, 2, x.n, 255, 256, 1 << 31, 1 << 32, 1 << 62, 1<<62 + 1, math.MaxInt / 2, math.MaxInt/2 + 1, math.MaxInt, math.MaxInt - x.d, (math.MaxInt - x.d) / 2, (math.MaxInt-x.d)/2 + 1} {
			enough := math.MaxInt
			if most < 1000 {
				enough = x.d + 2*most
			}
			for _, count := range []int{0, 1, x.k, x.d - 1, x.d, enough - 2, enough - 1, x.n - 1} {
				if count >= 0 && count < enough && count < x.n {
					repairsNot(t, c, 1, helps[:count], most, api.ErrFew)
				}
			}
			if enough < x.n {
				repairs(t, c, 1, helps[:enough], most, shares[1], nil)
			}
			repairsNot(t, c, 1, nil, most, api.ErrFew)
			repairsNot(t, c, 1, []api.Symbols{}, most, api.ErrFew)
		}
	}
}

// wrongSymbols are changes of symbols, each with bytes of that size, after which they are not valid any more.
func wrongSymbols(n, size int) []func(symbols []api.Symbols) []api.Symbols {
	var out []func([]api.Symbols) []api.Symbols
	for _, node := range outside(n) {
		out = append(out, func(symbols []api.Symbols) []api.Symbols { symbols[0].Node = node; return symbols },
			func(symbols []api.Symbols) []api.Symbols { symbols[len(symbols)-1].Node = node; return symbols })
	}
	for _, bytes := range []int{0, size - 1, size + 1, size + 256} {
		out = append(out, func(symbols []api.Symbols) []api.Symbols { symbols[0].Data = make([]byte, bytes); return symbols },
			func(symbols []api.Symbols) []api.Symbols {
				symbols[len(symbols)-1].Data = make([]byte, bytes)
				return symbols
			})
	}
	return append(out,
		func(symbols []api.Symbols) []api.Symbols { return append(symbols, symbols[0]) },
		func(symbols []api.Symbols) []api.Symbols { return append(symbols, symbols[len(symbols)-1]) },
		func(symbols []api.Symbols) []api.Symbols {
			return append(symbols, one(symbols[0].Node, mixed(1, size)...))
		},
		func(symbols []api.Symbols) []api.Symbols { return slices.Repeat(symbols, 300) },
		func(symbols []api.Symbols) []api.Symbols { symbols[0].Data = nil; return symbols })
}

// P9.5: wrong arguments, also where another error would hold.
func TestRepairWrongArguments(t *testing.T) {
	for _, x := range append(small(), large()...) {
		m, c := modelOf(t, x), made(t, nil, x)
		all := x.helpsOf(1, m.shares(mixed(x.n, x.b())))
		for _, count := range []int{1, x.d - 1, x.d, x.n - 1} {
			nodes := besides(shuffled(count, x.n), 1)[:count]
			for _, most := range []int{0, 1, 1000, math.MaxInt} {
				for _, change := range wrongSymbols(x.n, 1) {
					repairsNot(t, c, 1, change(picked(all, nodes)), most, api.ErrArg)
				}
				repairsNot(t, c, nodes[0], picked(all, nodes), most, api.ErrArg)
				repairsNot(t, c, nodes[count-1], picked(all, nodes), most, api.ErrArg)
				for _, to := range outside(x.n) {
					repairsNot(t, c, to, picked(all, nodes), most, api.ErrArg)
					repairsNot(t, c, to, nil, most, api.ErrArg)
				}
			}
			for _, most := range []int{-1, -2, -x.d, -256, math.MinInt, math.MinInt + 1, -1 << 62, -1<<62 - 1} {
				repairsNot(t, c, 1, picked(all, nodes), most, api.ErrArg)
				repairsNot(t, c, 1, nil, most, api.ErrArg)
			}
		}
	}
}

// none are codes that New did not make.
func none() []*Code {
	return []*Code{nil, {}}
}

// P9.1: without a code, whatever the arguments; one that New did not make works like a nil one.
func TestNoCode(t *testing.T) {
	for _, c := range none() {
		if c.Alpha() != 0 || c.B() != 0 {
			t.Errorf("Alpha %d, B %d", c.Alpha(), c.B())
		}
		for _, msg := range [][]byte{nil, {}, {5, 6}} {
			if all, e := c.Encode(msg); e != api.ErrNil || len(all) != 0 {
				t.Errorf("Encode: %v, %d", all, e)
			}
			for _, node := range []int{0, 1, -1, math.MaxInt} {
				if b, e := c.Help(0, node, msg); e != api.ErrNil || b != 0 {
					t.Errorf("Help: %v, %d", b, e)
				}
			}
		}
		for _, symbols := range [][]api.Symbols{nil, {}, {one(0, 5), one(1, 6)}, {one(-1)}} {
			for _, most := range []int{0, 1, -1, math.MaxInt, math.MinInt} {
				decodesNot(t, c, symbols, most, api.ErrNil)
				for _, to := range []int{0, 2, -1} {
					repairsNot(t, c, to, symbols, most, api.ErrNil)
				}
			}
		}
	}
}

// spoil changes a list, and all that is after its length in its memory.
func spoil[E byte | int](list []E) {
	list = list[:cap(list)]
	for i := range list {
		list[i] ^= 0x5a
	}
}

// longer returns symbols with more after the length of the list, and of each one's bytes, in their memory.
func longer(symbols []api.Symbols) []api.Symbols {
	out := make([]api.Symbols, 0, len(symbols)+4)
	for _, s := range append(symbols, one(1, 7), one(0, 8), one(2, 9)) {
		out = append(out, one(s.Node, append(append(make([]byte, 0, len(s.Data)+9), s.Data...), 41, 42, 43, 44, 45)[:len(s.Data)]...))
	}
	return out[:len(symbols)]
}

// whole are all bytes in the memory of symbols, also those after lengths.
func whole(symbols []api.Symbols) (out []int) {
	for _, s := range symbols[:cap(symbols)] {
		out = append(out, s.Node, len(s.Data))
		for _, b := range s.Data[:cap(s.Data)] {
			out = append(out, int(b))
		}
	}
	return out
}

// P9.7: arguments are left as they were, with what is after their length in their memory.
func TestArgumentsStay(t *testing.T) {
	for _, x := range small() {
		m, c := modelOf(t, x), made(t, nil, x)
		msg := append(mixed(1, x.b()), 1, 2, 3, 4, 5, 6, 7)
		kept := bytes.Clone(msg)
		c.Encode(msg[:x.b()])
		c.Encode(msg)
		c.Help(0, 1, msg[:x.alpha()])
		if !bytes.Equal(msg, kept) {
			t.Errorf("%v: a message, or a share, was changed", x)
		}
		shares := m.shares(msg[:x.b()])
		for most := range 3 {
			for count := range most + 2 {
				told, helps := picked(shares, shuffled(most, x.n)), picked(x.helpsOf(0, shares), besides(shuffled(most, x.n), 0))
				for i := range min(count, len(helps)) {
					told[i].Data[0] ^= 9
					helps[i].Data[0] ^= 9
				}
				told, helps = longer(told), longer(helps)
				one, two := whole(told), whole(helps)
				for _, t := range []int{most, x.n, -1} {
					c.Decode(told, t)
					c.Repair(0, helps, t)
					c.Repair(0, told, t)
				}
				if !slices.Equal(one, whole(told)) || !slices.Equal(two, whole(helps)) {
					t.Errorf("%v: arguments were changed: %v, %v", x, told, helps)
				}
			}
		}
	}
}

// P9.7: what the caller changes afterwards, in arguments or in results, changes nothing else, and no later result.
func TestNothingShared(t *testing.T) {
	for _, x := range small() {
		m, c := modelOf(t, x), made(t, nil, x)
		msg := mixed(x.n, x.b())
		want := m.shares(msg)
		given := bytes.Clone(msg)
		first, _ := c.Encode(given)
		second, _ := c.Encode(given)
		spoil(given)
		for i := range first {
			spoil(first[i])
			if !slices.EqualFunc(first[i+1:], want[i+1:], bytes.Equal) {
				t.Errorf("%v: the share of %d shares memory with a later one", x, i)
			}
		}
		if !slices.EqualFunc(second, want, bytes.Equal) {
			t.Errorf("%v: shares share memory with an argument, or other shares", x)
		}
		for most := 0; x.k+2*most <= x.n; most++ {
			told := picked(want, shuffled(most, x.n))
			var wrong []int
			for i := range most {
				told[i].Data[0] ^= 77
				wrong = append(wrong, told[i].Node)
			}
			slices.Sort(wrong)
			one, nodes, _ := c.Decode(told, most)
			two, others, _ := c.Decode(told, most)
			spoil(one)
			spoil(nodes)
			decodes(t, c, told, most, msg, wrong)
			for i := range told {
				spoil(told[i].Data)
			}
			if !bytes.Equal(two, msg) || !slices.Equal(others, wrong) {
				t.Errorf("%v, %d: a message shares memory: %v, %v", x, most, two, others)
			}
		}
		for most := 0; x.d+2*most < x.n; most++ {
			helps := picked(x.helpsOf(0, want), besides(shuffled(most, x.n), 0))
			var wrong []int
			for i := range most {
				helps[i].Data[0] ^= 77
				wrong = append(wrong, helps[i].Node)
			}
			slices.Sort(wrong)
			one, nodes, _ := c.Repair(0, helps, most)
			two, others, _ := c.Repair(0, helps, most)
			spoil(one)
			spoil(nodes)
			repairs(t, c, 0, helps, most, want[0], wrong)
			for i := range helps {
				spoil(helps[i].Data)
			}
			if !bytes.Equal(two, want[0]) || !slices.Equal(others, wrong) {
				t.Errorf("%v, %d: a share shares memory: %v, %v", x, most, two, others)
			}
		}
	}
}

// The rules for results: calls at once, of one code, have the results of calls one by one.
func TestAtOnce(t *testing.T) {
	x := shape{12, 4, 7}
	m, c := modelOf(t, x), made(t, nil, x)
	var all sync.WaitGroup
	for seed := range 8 {
		all.Go(func() {
			msg := mixed(seed, x.b())
			want := m.shares(msg)
			if got, e := c.Encode(msg); e != api.OK || !slices.EqualFunc(got, want, bytes.Equal) {
				t.Errorf("Encode: %v, %d", got, e)
			}
			told := picked(want, shuffled(seed, x.n))
			told[0].Data[1] ^= 7
			decodes(t, c, told, 3, msg, []int{told[0].Node})
			helps := picked(x.helpsOf(seed, want), besides(shuffled(seed, x.n), seed))
			helps[3].Data[0] ^= 7
			repairs(t, c, seed, helps, 2, want[seed], []int{helps[3].Node})
		})
	}
	all.Wait()
}
