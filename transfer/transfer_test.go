package transfer_test

import (
	"bytes"
	"math"
	"slices"
	"sync"
	"testing"

	"starfish/api"
	"starfish/field"
	"starfish/transfer"
)

// same reports whether lists of shares are equal.
func same(a, b [][]byte) bool { return slices.EqualFunc(a, b, bytes.Equal) }

// Examples.
func TestExamples(t *testing.T) {
	for _, f := range []*field.Field{field.New(), nil, {}} {
		c := made(t, f, shape{3, 2})
		if c.Alpha() != 2 || c.B() != 3 {
			t.Errorf("Alpha %d, B %d", c.Alpha(), c.B())
		}
		if all, e := c.Encode([]byte{1, 0, 0}); e != api.OK || !same(all, [][]byte{{1, 1}, {1, 1}, {1, 1}}) {
			t.Errorf("Encode: %v, %d", all, e)
		}
		if all, e := c.Encode([]byte{0, 1, 0}); e != api.OK || !same(all, [][]byte{{1, 2}, {1, 4}, {2, 4}}) {
			t.Errorf("Encode: %v, %d", all, e)
		}
		if b, e := c.Help(2, 0, []byte{2, 4}); b != 2 || e != api.OK {
			t.Errorf("Help: %d, %d", b, e)
		}
		repairs(t, c, 0, []api.Symbols{symbol(2, 2), symbol(1, 1)}, []byte{1, 2})
		decodes(t, c, []api.Symbols{symbol(1, 1, 4), symbol(2, 2, 4)}, []byte{0, 1, 0})
		decodesNot(t, c, []api.Symbols{symbol(1, 1, 4), symbol(2, 2, 5)}, api.ErrLost)
		isMade(t, shape{24, 2}, false)
	}
}

// isMade reports a result of New that is not the code, or the error, as it should be.
func isMade(t *testing.T, x shape, want bool) {
	t.Helper()
	c, e := transfer.New(nil, x.n, x.k)
	switch {
	case want && (c == nil || e != api.OK):
		t.Errorf("New of %v: %v, %d", x, c, e)
	case want && (c.Alpha() != x.n-1 || c.B() != x.b() || c.B() != x.k*(x.n-1)-x.k*(x.k-1)/2):
		t.Errorf("%v: Alpha %d, B %d", x, c.Alpha(), c.B())
	case !want && (c != nil || e != api.ErrArg):
		t.Errorf("New of %v: %v, %d, want ErrArg", x, c, e)
	}
}

// P11.1, P11.2: all numbers up to the limits and beyond, and those around 0.
func TestNew(t *testing.T) {
	for n := -30; n <= 60; n++ {
		for k := -3; k <= 60; k++ {
			isMade(t, shape{n, k}, k > 0 && n > k && n <= 23)
		}
	}
	for n := -300; n <= 600; n++ {
		for _, k := range []int{-1, 0, n - 2, n - 1, n, n + 1} {
			isMade(t, shape{n, k}, k > 0 && n > k && n <= 23)
		}
	}
}

// P11.1: huge numbers, and those that are small in fewer bits, as they are or when they are multiplied.
func TestNewHuge(t *testing.T) {
	huge := []int{math.MaxInt, math.MaxInt - 1, math.MaxInt/2 + 1, math.MinInt, math.MinInt + 1, 1 << 31, 1 << 32, 1<<32 + 1, 1<<32 + 3, 1<<32 + 5, -1 << 32, 1<<33 + 1, 1 << 62, 1<<62 + 1, 1 << 16, 65536 + 3, 256, 259, -253, -22}
	for _, a := range huge {
		for _, x := range []shape{{a, 1}, {a, 2}, {a, 22}, {5, a}, {23, a}, {a, a - 1}} {
			isMade(t, x, false)
		}
		for _, b := range huge {
			isMade(t, shape{a, b}, false)
		}
	}
}

// P11.3: which edges a node has, by hand.
func TestEncodeByHand(t *testing.T) {
	c := made(t, nil, shape{4, 3}) // the edges 0 1, 0 2, 0 3, 1 2, 1 3, 2 3; as many bytes in a message
	powers := []byte{1, 2, 4, 8, 16, 32}
	want := [][]byte{{1, 2, 4}, {1, 8, 16}, {2, 8, 32}, {4, 16, 32}}
	if all, e := c.Encode([]byte{0, 1, 0, 0, 0, 0}); e != api.OK || !same(all, want) {
		t.Errorf("the points: %v, %d", all, e)
	}
	for i, point := range powers { // only this edge has a byte that is not 0
		msg := []byte{1}
		for j, other := range powers {
			if j != i {
				next := append([]byte{0}, msg...)
				addTimes(next, msg, other)
				msg = next
			}
		}
		word := make([]byte, 6)
		for power := len(msg) - 1; power >= 0; power-- {
			word[i] = products[word[i]][point] ^ msg[power]
		}
		shares := [][]byte{{word[0], word[1], word[2]}, {word[0], word[3], word[4]}, {word[1], word[3], word[5]}, {word[2], word[4], word[5]}}
		if all, e := c.Encode(msg); e != api.OK || word[i] == 0 || !same(all, shares) {
			t.Errorf("the edge %d: %v, %d, want %v", i, all, e, shares)
		}
	}
}

// P11.3, P11.1: the shares of the definition, for any field.
func TestEncode(t *testing.T) {
	for _, x := range all() {
		for _, f := range []*field.Field{field.New(), nil, {}} {
			c := made(t, f, x)
			for _, msg := range messages(x.b()) {
				got, e := c.Encode(msg)
				if want := x.shares(msg); e != api.OK || !same(got, want) {
					t.Fatalf("Encode by %v of %v: %v, %d, want %v", x, msg, got, e, want)
				}
			}
		}
	}
}

// P11.3: messages of another length.
func TestEncodeWrongLength(t *testing.T) {
	for _, x := range all() {
		c := made(t, nil, x)
		for _, size := range []int{0, 1, x.k * x.alpha(), len(x.edges()), x.b() - 1, x.b() + 1, 2 * x.b(), x.b() + 256, 70000} {
			if size == x.b() {
				continue
			}
			if got, e := c.Encode(make([]byte, size)); e != api.ErrArg || len(got) != 0 {
				t.Errorf("Encode by %v of %d bytes: %v, %d", x, size, got, e)
			}
		}
		if got, e := c.Encode(nil); e != api.ErrArg || len(got) != 0 {
			t.Errorf("Encode by %v of nothing: %v, %d", x, got, e)
		}
	}
}

// P11.4: whatever the share, for all pairs of nodes.
func TestHelp(t *testing.T) {
	for _, x := range all() {
		c := made(t, nil, x)
		for from := range x.n {
			for to := range x.n {
				share := mixed(from*x.n+to, x.alpha())
				b, e := c.Help(from, to, share)
				if from == to {
					if b != 0 || e != api.ErrArg {
						t.Errorf("Help by %v of %d for itself: %d, %d", x, from, b, e)
					}
				} else if want := share[slices.Index(x.others(from), to)]; b != want || e != api.OK {
					t.Errorf("Help by %v of %d for %d, %v: %d, %d, want %d", x, from, to, share, b, e, want)
				}
			}
		}
	}
}

// P11.4, P11.3: what two nodes send to each other is the byte of the word for their edge.
func TestHelpOfWord(t *testing.T) {
	for _, x := range small() {
		c := made(t, nil, x)
		msg := mixed(x.n, x.b())
		word := x.word(msg)
		shares, _ := c.Encode(msg)
		for i, edge := range x.edges() {
			for _, pair := range [][2]int{edge, {edge[1], edge[0]}} {
				if b, e := c.Help(pair[0], pair[1], shares[pair[0]]); b != word[i] || e != api.OK {
					t.Errorf("Help by %v of %d for %d: %d, %d, want %d", x, pair[0], pair[1], b, e, word[i])
				}
			}
		}
	}
}

// outside are numbers of no node.
func outside(n int) []int {
	return []int{-1, -2, -n, -256, math.MinInt, n, n + 1, 256, 257, 1 << 32, 1<<32 + 1, math.MaxInt}
}

// P11.4: no nodes, and shares of another length.
func TestHelpWrongArguments(t *testing.T) {
	for _, x := range all() {
		c := made(t, nil, x)
		no := func(from, to int, share []byte) {
			t.Helper()
			if b, e := c.Help(from, to, share); b != 0 || e != api.ErrArg {
				t.Errorf("Help by %v of %d for %d, %d bytes: %d, %d", x, from, to, len(share), b, e)
			}
		}
		share := mixed(1, x.alpha())
		for _, node := range outside(x.n) {
			no(node, 0, share)
			no(0, node, share)
			no(x.n-1, node, share)
			no(node, node, share)
		}
		for _, pair := range [][2]int{{0, 1}, {1, 0}, {x.n - 1, 0}, {0, x.n - 1}} {
			no(pair[0], pair[1], nil)
			no(pair[0], pair[1], share[:x.alpha()-1])
			no(pair[0], pair[1], append(bytes.Clone(share), 0))
			no(pair[0], pair[1], make([]byte, x.alpha()+256))
		}
	}
}

// P11.1: without a code, whatever the arguments. The chapter does not speak of one that New did not make, but its calls must not panic.
func TestNoCode(t *testing.T) {
	for _, c := range []*transfer.Code{nil, {}} {
		is := func(what string, e api.Errno, empty bool) {
			t.Helper()
			if c == nil && (e != api.ErrNil || !empty) {
				t.Errorf("%s: the error %d, no results: %v", what, e, empty)
			}
		}
		is("Alpha, B", api.ErrNil, c.Alpha() == 0 && c.B() == 0)
		for _, b := range [][]byte{nil, {}, {5}, {5, 6}, {5, 6, 7}} {
			all, e := c.Encode(b)
			is("Encode", e, len(all) == 0)
			for _, node := range []int{0, 1, -1, math.MaxInt, math.MinInt} {
				sent, e := c.Help(0, node, b)
				is("Help", e, sent == 0)
				sent, e = c.Help(node, 0, b)
				is("Help", e, sent == 0)
			}
		}
		for _, l := range [][]api.Symbols{nil, {}, {symbol(0, 5), symbol(1, 6)}, {symbol(-1)}, {symbol(0)}} {
			msg, e := c.Decode(l)
			is("Decode", e, len(msg) == 0)
			for _, to := range []int{0, 2, -1, math.MinInt} {
				share, e := c.Repair(to, l)
				is("Repair", e, len(share) == 0)
			}
		}
	}
}

// spoil changes a list, and all that is after its length in its memory.
func spoil(list []byte) {
	list = list[:cap(list)]
	for i := range list {
		list[i] ^= 0x5a
	}
}

// longer returns symbols with more after the length of the list, and of each one's bytes, in their memory.
func longer(symbols []api.Symbols) []api.Symbols {
	out := make([]api.Symbols, 0, len(symbols)+4)
	for _, s := range append(symbols, symbol(1, 7), symbol(0, 8), symbol(2, 9)) {
		out = append(out, symbol(s.Node, append(append(make([]byte, 0, len(s.Data)+9), s.Data...), 41, 42, 43, 44, 45)[:len(s.Data)]...))
	}
	return out[:len(symbols)]
}

// whole are all bytes in the memory of symbols, also those after lengths.
func whole(symbols []api.Symbols) (out []int) {
	for _, s := range symbols[:cap(symbols)] {
		out = append(out, s.Node, len(s.Data))
		for _, b := range s.Data[:cap(s.Data)] {
			out = append(out, int(b))
		}
	}
	return out
}

// P11.7: arguments are left as they were, with what is after their length in their memory.
func TestArgumentsStay(t *testing.T) {
	for _, x := range small() {
		c := made(t, nil, x)
		msg := append(mixed(1, x.b()), 1, 2, 3, 4, 5, 6, 7)
		kept := bytes.Clone(msg)
		c.Encode(msg[:x.b()])
		c.Encode(msg)
		c.Help(0, 1, msg[:x.alpha()])
		c.Help(1, 0, msg[:x.alpha()])
		if !bytes.Equal(msg, kept) {
			t.Errorf("%v: a message, or a share, was changed", x)
		}
		shares := x.shares(msg[:x.b()])
		for seed := range 4 {
			nodes := shuffled(seed, x.n)
			told, helps := picked(shares, nodes), picked(x.helps(0, shares), besides(nodes, 0))
			if seed%2 == 1 {
				told[0].Data[0] ^= 9
			}
			told, helps = longer(told[seed/3:]), longer(helps[seed/3:])
			one, two := whole(told), whole(helps)
			c.Decode(told)
			c.Decode(helps)
			c.Repair(0, helps)
			c.Repair(0, told)
			if !slices.Equal(one, whole(told)) || !slices.Equal(two, whole(helps)) {
				t.Errorf("%v: arguments were changed: %v, %v", x, told, helps)
			}
		}
	}
}

// P11.7: shares have memory of their own.
func TestSharesAreNew(t *testing.T) {
	for _, x := range small() {
		c := made(t, nil, x)
		msg := mixed(x.n, x.b())
		want := x.shares(msg)
		given := bytes.Clone(msg)
		first, _ := c.Encode(given)
		second, _ := c.Encode(given)
		spoil(given)
		for i := range first {
			spoil(first[i])
			if !same(first[i+1:], want[i+1:]) {
				t.Errorf("%v: the share of %d shares memory with a later one", x, i)
			}
		}
		for i := len(second) - 1; i >= 0; i-- {
			if !same(second[:i+1], want[:i+1]) {
				t.Errorf("%v: a share shares memory with an argument, or another share: %v", x, second)
			}
			spoil(second[i])
		}
		if third, _ := c.Encode(msg); !same(third, want) {
			t.Errorf("%v: shares share memory with the code", x)
		}
	}
}

// P11.7: what the caller changes afterwards, in arguments or in results, changes nothing else, and no later result.
func TestNothingShared(t *testing.T) {
	for _, x := range small() {
		c := made(t, nil, x)
		msg := mixed(x.n, x.b())
		shares := x.shares(msg)
		told := picked(shares, shuffled(x.k, x.n))
		one, _ := c.Decode(told)
		two, _ := c.Decode(told)
		spoil(one)
		decodes(t, c, told, msg)
		helps := picked(x.helps(0, shares), besides(shuffled(x.k, x.n), 0))
		three, _ := c.Repair(0, helps)
		four, _ := c.Repair(0, helps)
		spoil(three)
		repairs(t, c, 0, helps, shares[0])
		for _, s := range slices.Concat(told, helps) {
			spoil(s.Data)
		}
		if !bytes.Equal(two, msg) || !bytes.Equal(four, shares[0]) {
			t.Errorf("%v: results share memory: %v, %v", x, two, four)
		}
	}
}

// The rules for results: calls at once, of one code, have the results of calls one by one.
func TestAtOnce(t *testing.T) {
	x := shape{11, 5}
	c := made(t, &field.Field{}, x)
	var calls sync.WaitGroup
	for seed := range 8 {
		calls.Go(func() {
			msg := mixed(seed, x.b())
			want := x.shares(msg)
			if got, e := c.Encode(msg); e != api.OK || !same(got, want) {
				t.Errorf("Encode: %v, %d", got, e)
			}
			if b, e := c.Help(seed, 10, want[seed]); e != api.OK || b != want[seed][9] {
				t.Errorf("Help: %d, %d", b, e)
			}
			told := picked(want, shuffled(seed, x.n))
			decodes(t, c, told[:5+seed%6], msg)
			told[1].Data[seed]++
			decodesNot(t, c, told, api.ErrLost)
			repairs(t, c, seed, picked(x.helps(seed, want), besides(shuffled(seed, x.n), seed)), want[seed])
		})
	}
	calls.Wait()
}
