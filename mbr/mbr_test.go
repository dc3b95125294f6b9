package mbr_test

import (
	"bytes"
	"math"
	"slices"
	"sync"
	"testing"

	"starfish/api"
	"starfish/field"
	"starfish/mbr"
)

// same reports whether lists of shares are equal.
func same(a, b [][]byte) bool { return slices.EqualFunc(a, b, bytes.Equal) }

// Examples.
func TestExamples(t *testing.T) {
	for _, f := range []*field.Field{field.New(), nil, {}} {
		c := made(t, f, shape{4, 2, 2})
		if c.Alpha() != 2 || c.B() != 3 {
			t.Errorf("Alpha %d, B %d", c.Alpha(), c.B())
		}
		if all, e := c.Encode([]byte{1, 2, 3}); e != api.OK || !same(all, [][]byte{{3, 1}, {5, 4}, {9, 14}, {17, 26}}) {
			t.Errorf("Encode: %v, %d", all, e)
		}
		if b, e := c.Help(1, 0, []byte{5, 4}); b != 1 || e != api.OK {
			t.Errorf("Help: %d, %d", b, e)
		}
		repairs(t, c, 0, []api.Symbols{symbol(1, 1), symbol(2, 7)}, 0, []byte{3, 1}, nil)
		decodes(t, c, []api.Symbols{symbol(1, 5, 4), symbol(3, 17, 26)}, 0, []byte{1, 2, 3}, nil)
		for _, x := range []shape{{4, 0, 2}, {4, 3, 2}, {4, 2, 4}} {
			isMade(t, x, false)
		}
	}
}

// isMade reports a result of New that is not the code, or the error, as it should be.
func isMade(t *testing.T, x shape, want bool) {
	t.Helper()
	c, e := mbr.New(nil, x.n, x.k, x.d)
	switch {
	case want && (c == nil || e != api.OK):
		t.Errorf("New of %v: %v, %d", x, c, e)
	case want && (c.Alpha() != x.d || c.B() != x.b()):
		t.Errorf("%v: Alpha %d, B %d", x, c.Alpha(), c.B())
	case !want && (c != nil || e != api.ErrArg):
		t.Errorf("New of %v: %v, %d, want ErrArg", x, c, e)
	}
}

// valid is the condition of P10.1.
func valid(x shape) bool { return x.k > 0 && x.d >= x.k && x.n > x.d && x.n <= 255 }

// P10.1, P10.2: all small numbers, and those around 0.
func TestNewSmall(t *testing.T) {
	for n := -3; n <= 16; n++ {
		for k := -3; k <= 16; k++ {
			for d := -3; d <= 17; d++ {
				isMade(t, shape{n, k, d}, valid(shape{n, k, d}))
			}
		}
	}
}

// P10.1, P10.2: at the most nodes, and above.
func TestNewLimits(t *testing.T) {
	ends := []int{0, 1, 2, 127, 128, 129, 253, 254, 255, 256, 257, 511, 512}
	for _, n := range []int{254, 255, 256, 257, 510, 511, 512} {
		for _, k := range ends {
			for _, d := range ends {
				isMade(t, shape{n, k, d}, valid(shape{n, k, d}))
			}
		}
	}
}

// P10.1: huge numbers, and those that are small in fewer bits.
func TestNewHuge(t *testing.T) {
	huge := []int{math.MaxInt, math.MaxInt - 1, math.MaxInt/2 + 1, math.MinInt, math.MinInt + 1, 1 << 32, 1<<32 + 3, 1<<32 + 5, -1 << 32, 65536 + 3, 256, 259, -253}
	for _, a := range huge {
		for _, x := range []shape{{a, 2, 2}, {5, a, 2}, {5, 2, a}, {255, a, 254}, {255, 1, a}} {
			isMade(t, x, false)
		}
		for _, b := range huge {
			for _, x := range []shape{{a, b, 2}, {a, 2, b}, {5, a, b}} {
				isMade(t, x, false)
			}
			for _, d := range huge {
				isMade(t, shape{a, b, d}, false)
			}
		}
	}
}

// P10.3: where the bytes of a message are in its matrix, by hand.
func TestEncodeByHand(t *testing.T) {
	x := shape{6, 2, 4}
	c := made(t, nil, x)
	for seed := range 20 {
		m := mixed(seed, 7)
		matrix := [][]byte{{m[0], m[1], m[3], m[4]}, {m[1], m[2], m[5], m[6]}, {m[3], m[5], 0, 0}, {m[4], m[6], 0, 0}}
		want := x.times(matrix)
		first := make([]byte, 4) // the point of the node 0 is 1
		for _, row := range matrix {
			addTimes(first, row, 1)
		}
		if all, e := c.Encode(m); e != api.OK || !same(all, want) || !bytes.Equal(all[0], first) {
			t.Errorf("Encode of %v: %v, %d, want %v", m, all, e, want)
		}
	}
}

// P10.3, P10.1: the shares of the definition, for any field.
func TestEncode(t *testing.T) {
	for _, x := range append(small(), large()...) {
		for _, f := range []*field.Field{field.New(), nil, {}} {
			c := made(t, f, x)
			for _, msg := range messages(x.b()) {
				all, e := c.Encode(msg)
				if want := x.shares(msg); e != api.OK || !same(all, want) {
					t.Fatalf("Encode by %v of %v: %v, %d, want %v", x, msg, all, e, want)
				}
				if x.d > 100 {
					break
				}
			}
		}
	}
	for _, x := range greatest() {
		msg := mixed(x.k, x.b())
		if all, e := made(t, nil, x).Encode(msg); e != api.OK || !same(all, x.shares(msg)) {
			t.Errorf("Encode by %v: %d", x, e)
		}
	}
}

// P10.3: messages of another length.
func TestEncodeWrongLength(t *testing.T) {
	for _, x := range slices.Concat(small(), large(), greatest()) {
		c := made(t, nil, x)
		for _, size := range []int{0, 1, x.k * x.d, x.b() - 1, x.b() + 1, 2 * x.b(), x.b() + 256, 70000} {
			if size == x.b() {
				continue
			}
			if all, e := c.Encode(make([]byte, size)); e != api.ErrArg || len(all) != 0 {
				t.Errorf("Encode by %v of %d bytes: %v, %d", x, size, all, e)
			}
		}
		if all, e := c.Encode(nil); e != api.ErrArg || len(all) != 0 {
			t.Errorf("Encode by %v of nothing: %v, %d", x, all, e)
		}
	}
}

// P10.4: whatever the share, for all pairs of nodes.
func TestHelp(t *testing.T) {
	for _, x := range append(small(), large()...) {
		c := made(t, nil, x)
		for from := range x.n {
			if x.n > 60 && from > 3 && from != x.n-1 {
				continue
			}
			for to := range x.n {
				share := mixed(from*x.n+to, x.d)
				b, e := c.Help(from, to, share)
				if from == to {
					if b != 0 || e != api.ErrArg {
						t.Errorf("Help by %v of %d for itself: %d, %d", x, from, b, e)
					}
				} else if want := x.help(to, share); b != want || e != api.OK {
					t.Errorf("Help by %v of %d for %d, %v: %d, %d, want %d", x, from, to, share, b, e, want)
				}
			}
		}
	}
}

// outside are numbers of no node.
func outside(n int) []int {
	return []int{-1, -2, -n, -256, math.MinInt, n, n + 1, 256, 257, 1 << 32, 1<<32 + 1, math.MaxInt}
}

// P10.4: no nodes, and shares of another length.
func TestHelpWrongArguments(t *testing.T) {
	for _, x := range append(small(), large()...) {
		c := made(t, nil, x)
		no := func(from, to int, share []byte) {
			t.Helper()
			if b, e := c.Help(from, to, share); b != 0 || e != api.ErrArg {
				t.Errorf("Help by %v of %d for %d, %d bytes: %d, %d", x, from, to, len(share), b, e)
			}
		}
		share := mixed(1, x.d)
		for _, node := range outside(x.n) {
			no(node, 0, share)
			no(0, node, share)
			no(node, node, share)
		}
		no(0, 1, nil)
		no(0, 1, share[:x.d-1])
		no(0, 1, append(share, 0))
		no(0, 1, make([]byte, x.d+256))
	}
}

// P10.1: without a code, whatever the arguments. The chapter does not speak of one that New did not make, but its calls must not panic.
func TestNoCode(t *testing.T) {
	for _, c := range []*mbr.Code{nil, {}} {
		is := func(what string, e api.Errno, empty bool) {
			t.Helper()
			if c == nil && (e != api.ErrNil || !empty) {
				t.Errorf("%s: the error %d, no results: %v", what, e, empty)
			}
		}
		is("Alpha, B", api.ErrNil, c.Alpha() == 0 && c.B() == 0)
		for _, b := range [][]byte{nil, {}, {5}, {5, 6}, {5, 6, 7}} {
			all, e := c.Encode(b)
			is("Encode", e, len(all) == 0)
			for _, node := range []int{0, 1, -1, math.MaxInt} {
				sent, e := c.Help(0, node, b)
				is("Help", e, sent == 0)
			}
		}
		for _, l := range [][]api.Symbols{nil, {}, {symbol(0, 5), symbol(1, 6)}, {symbol(-1)}} {
			for _, most := range []int{0, 1, -1, math.MaxInt, math.MinInt} {
				msg, wrong, e := c.Decode(l, most)
				is("Decode", e, len(msg)+len(wrong) == 0)
				for _, to := range []int{0, 2, -1} {
					share, wrong, e := c.Repair(to, l, most)
					is("Repair", e, len(share)+len(wrong) == 0)
				}
			}
		}
	}
}

// spoil changes a list, and all that is after its length in its memory.
func spoil[E byte | int](list []E) {
	list = list[:cap(list)]
	for i := range list {
		list[i] ^= 0x5a
	}
}

// longer returns symbols with more after the length of the list, and of each one's bytes, in their memory.
func longer(symbols []api.Symbols) []api.Symbols {
	out := make([]api.Symbols, 0, len(symbols)+4)
	for _, s := range append(symbols, symbol(1, 7), symbol(0, 8), symbol(2, 9)) {
		out = append(out, symbol(s.Node, append(append(make([]byte, 0, len(s.Data)+9), s.Data...), 41, 42, 43, 44, 45)[:len(s.Data)]...))
	}
	return out[:len(symbols)]
}

// whole are all bytes in the memory of symbols, also those after lengths.
func whole(symbols []api.Symbols) (out []int) {
	for _, s := range symbols[:cap(symbols)] {
		out = append(out, s.Node, len(s.Data))
		for _, b := range s.Data[:cap(s.Data)] {
			out = append(out, int(b))
		}
	}
	return out
}

// P10.7: arguments are left as they were, with what is after their length in their memory.
func TestArgumentsStay(t *testing.T) {
	for _, x := range small() {
		c := made(t, nil, x)
		msg := append(mixed(1, x.b()), 1, 2, 3, 4, 5, 6, 7)
		kept := bytes.Clone(msg)
		c.Encode(msg[:x.b()])
		c.Encode(msg)
		c.Help(0, 1, msg[:x.d])
		if !bytes.Equal(msg, kept) {
			t.Errorf("%v: a message, or a share, was changed", x)
		}
		shares := x.shares(msg[:x.b()])
		for most := range 3 {
			for count := range most + 2 {
				told, helps := picked(shares, shuffled(most, x.n)), picked(x.helps(0, shares), besides(shuffled(most, x.n), 0))
				for i := range min(count, len(helps)) {
					told[i].Data[i%x.d] ^= 9
					helps[i].Data[0] ^= 9
				}
				told, helps = longer(told), longer(helps)
				one, two := whole(told), whole(helps)
				for _, most := range []int{most, x.n, -1} {
					c.Decode(told, most)
					c.Repair(0, helps, most)
					c.Repair(0, told, most)
				}
				if !slices.Equal(one, whole(told)) || !slices.Equal(two, whole(helps)) {
					t.Errorf("%v: arguments were changed: %v, %v", x, told, helps)
				}
			}
		}
	}
}

// P10.7: shares have memory of their own.
func TestSharesAreNew(t *testing.T) {
	for _, x := range small() {
		c := made(t, nil, x)
		msg := mixed(x.n, x.b())
		want := x.shares(msg)
		given := bytes.Clone(msg)
		first, _ := c.Encode(given)
		second, _ := c.Encode(given)
		spoil(given)
		for i := range first {
			spoil(first[i])
			if !same(first[i+1:], want[i+1:]) {
				t.Errorf("%v: the share of %d shares memory with a later one", x, i)
			}
		}
		for i := len(second) - 1; i >= 0; i-- {
			if !same(second[:i+1], want[:i+1]) {
				t.Errorf("%v: a share shares memory with an argument, or another share: %v", x, second)
			}
			spoil(second[i])
		}
		if third, _ := c.Encode(msg); !same(third, want) {
			t.Errorf("%v: shares share memory with the code", x)
		}
	}
}

// P10.7: what the caller changes afterwards, in arguments or in results, changes nothing else, and no later result.
func TestNothingShared(t *testing.T) {
	for _, x := range small() {
		c := made(t, nil, x)
		msg := mixed(x.n, x.b())
		shares := x.shares(msg)
		for most := 0; x.k+2*most <= x.n; most++ {
			told := picked(shares, shuffled(most, x.n))
			wrong := nodesAt(told, upTo(most))
			for i := range most {
				told[i].Data[i%x.d] ^= 77
			}
			one, nodes, _ := c.Decode(told, most)
			two, others, _ := c.Decode(told, most)
			spoil(one)
			spoil(nodes)
			decodes(t, c, told, most, msg, wrong)
			for i := range told {
				spoil(told[i].Data)
			}
			if !bytes.Equal(two, msg) || !slices.Equal(others, wrong) {
				t.Errorf("%v, %d: a message shares memory: %v, %v", x, most, two, others)
			}
		}
		for most := 0; x.d+2*most < x.n; most++ {
			helps := picked(x.helps(0, shares), besides(shuffled(most, x.n), 0))
			wrong := nodesAt(helps, upTo(most))
			for i := range most {
				helps[i].Data[0] ^= 77
			}
			one, nodes, _ := c.Repair(0, helps, most)
			two, others, _ := c.Repair(0, helps, most)
			spoil(one)
			spoil(nodes)
			repairs(t, c, 0, helps, most, shares[0], wrong)
			for i := range helps {
				spoil(helps[i].Data)
			}
			if !bytes.Equal(two, shares[0]) || !slices.Equal(others, wrong) {
				t.Errorf("%v, %d: a share shares memory: %v, %v", x, most, two, others)
			}
		}
	}
}

// The rules for results: calls at once, of one code, have the results of calls one by one.
func TestAtOnce(t *testing.T) {
	x := shape{12, 4, 7}
	c := made(t, nil, x)
	var all sync.WaitGroup
	for seed := range 8 {
		all.Go(func() {
			msg := mixed(seed, x.b())
			want := x.shares(msg)
			if got, e := c.Encode(msg); e != api.OK || !same(got, want) {
				t.Errorf("Encode: %v, %d", got, e)
			}
			told := picked(want, shuffled(seed, x.n))
			told[0].Data[1] ^= 7
			decodes(t, c, told, 3, msg, []int{told[0].Node})
			helps := picked(x.helps(seed, want), besides(shuffled(seed, x.n), seed))
			helps[3].Data[0] ^= 7
			repairs(t, c, seed, helps, 2, want[seed], []int{helps[3].Node})
		})
	}
	all.Wait()
}
