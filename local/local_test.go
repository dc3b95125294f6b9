package local_test

import (
	"bytes"
	"math"
	"slices"
	"sync"
	"testing"

	"starfish/api"
	"starfish/field"
	"starfish/local"
)

// Examples.
func TestExamples(t *testing.T) {
	for _, f := range []*field.Field{field.New(), nil, {}} {
		x := shape{6, 2, 2}
		c := made(t, f, x)
		if c.Tells() != 2 || !slices.Equal(c.Group(4), []int{3, 5}) {
			t.Errorf("Tells %d, Group %v", c.Tells(), c.Group(4))
		}
		encodes(t, c, []byte{5, 0}, []byte{5, 5, 5, 5, 5, 5})
		encodes(t, c, []byte{1, 2}, x.values([]byte{1, 2}))
		nears(t, c, 0, []api.Symbols{symbol(1, 5), symbol(2, 5)}, 5)
		decodes(t, c, []api.Symbols{symbol(3, 5), symbol(5, 5)}, 0, []byte{5, 0}, nil)
		nearsNot(t, c, 0, []api.Symbols{symbol(1, 5), symbol(4, 5)}, api.ErrFew)
		isMade(t, shape{6, 3, 2}, false)
		isMade(t, shape{8, 2, 3}, false)
	}
}

// isMade reports a result of New that is not the code, or the error, as it should be.
func isMade(t *testing.T, x shape, want bool) {
	t.Helper()
	c, e := local.New(nil, x.n, x.k, x.r)
	switch {
	case want && (c == nil || e != api.OK):
		t.Errorf("New of %v: %v, %d", x, c, e)
	case want && c.Tells() != x.tells():
		t.Errorf("%v: Tells %d", x, c.Tells())
	case !want && (c != nil || e != api.ErrArg):
		t.Errorf("New of %v: %v, %d, want ErrArg", x, c, e)
	}
}

// P12.1, P12.2: all small numbers, and those around 0.
func TestNewSmall(t *testing.T) {
	for n := -6; n <= 34; n++ {
		for k := -6; k <= 36; k++ {
			for r := -6; r <= 36; r++ {
				x := shape{n, k, r}
				isMade(t, x, r > 0 && x.valid())
			}
		}
	}
}

// P12.1, P12.2: groups of all sizes, of as many nodes as there can be, and beyond.
func TestNewLimits(t *testing.T) {
	count := 0
	for r := 1; r <= 520; r++ {
		for _, n := range []int{0, r + 1, 2 * (r + 1), 17 * (r + 1), 254, 255, 256, 255 - r - 1, 255 / (r + 1) * (r + 1), 255 + r + 1, 510} {
			tops := n / (r + 1) * r // with one less in a group the last one that may be
			for _, k := range []int{0, 1, r - 1, r, r + 1, 2 * r, 3 * r, n / 2 / r * r, tops - r, tops - 1, tops, tops + 1, tops + r, n - 1, n, n + 1, n + r} {
				x := shape{n, k, r}
				isMade(t, x, x.valid())
				if x.valid() {
					count++
				}
			}
		}
	}
	if count < 150 {
		t.Errorf("only %d were codes", count)
	}
}

// P12.1: which sizes of groups there are: those that divide 255.
func TestNewGroups(t *testing.T) {
	var sizes []int
	for r := range 1000 {
		if c, e := local.New(nil, r+1, r, r); e == api.OK && c.Tells() == r {
			sizes = append(sizes, r+1)
		}
	}
	if !slices.Equal(sizes, []int{3, 5, 15, 17, 51, 85, 255}) {
		t.Errorf("groups of %v", sizes)
	}
}

// P12.1: huge numbers, and those that are small in fewer bits, as they are or when one is added.
func TestNewHuge(t *testing.T) {
	huge := []int{math.MaxInt, math.MaxInt - 1, math.MaxInt - 2, math.MaxInt/3*2 + 1, math.MaxInt/2 + 1, math.MinInt, math.MinInt + 1, math.MinInt + 2, 1 << 31, 1 << 32, 1<<32 + 1, 1<<32 + 2, 1<<32 + 6, 1<<32*3 - 1, -1 << 32, 3 << 32, 65536 + 2, 65536 * 3, 256 * 3, 258, 262, -250, -254, -2}
	for _, a := range huge {
		for _, x := range []shape{{a, 2, 2}, {6, a, 2}, {6, 2, a}, {255, a, 254}, {a, 254, 254}, {255, 254, a}, {0, 0, a}, {0, a, a}, {a, 0, 2}} {
			isMade(t, x, false)
		}
		for _, b := range huge {
			for _, x := range []shape{{a, b, 2}, {a, 2, b}, {6, a, b}} {
				isMade(t, x, false)
			}
			for _, r := range huge {
				isMade(t, shape{a, b, r}, false)
			}
		}
	}
}

// P12.2: the group of each node, by the powers of its point; nothing for what is no node.
func TestGroup(t *testing.T) {
	for _, x := range all() {
		c := made(t, nil, x)
		for node := range x.n {
			var want []int // all points of a group have the same power R + 1
			for other := range x.n {
				if other != node && raised(x.point(other), x.r+1) == raised(x.point(node), x.r+1) {
					want = append(want, other)
				}
			}
			if got := c.Group(node); len(got) != x.r || !slices.Equal(got, want) {
				t.Errorf("Group of %d by %v: %v, want %v", node, x, got, want)
			}
		}
		for _, node := range append(outside(x.n), x.n+x.r, x.n+x.r+1) {
			if got := c.Group(node); len(got) != 0 {
				t.Errorf("Group of %d by %v: %v", node, x, got)
			}
		}
	}
	if got := made(t, nil, shape{15, 4, 4}).Group(12); !slices.Equal(got, []int{10, 11, 13, 14}) {
		t.Errorf("Group: %v", got)
	}
}

// encodes reports a result of Encode that is not these shares.
func encodes(t *testing.T, c *local.Code, msg, want []byte) {
	t.Helper()
	if all, e := c.Encode(msg); e != api.OK || !bytes.Equal(all, want) {
		t.Errorf("Encode of %v: %v, %d, want %v", msg, all, e, want)
	}
}

// P12.3: which coefficients the bytes of a message are, by hand.
func TestEncodeByHand(t *testing.T) {
	x := shape{9, 6, 2}
	c := made(t, nil, x)
	h := raised(2, 85)
	points := []byte{1, h, raised(h, 2), 2, products[2][h], products[2][raised(h, 2)], 4, products[4][h], products[4][raised(h, 2)]}
	for i, power := range []int{0, 1, 3, 4, 6, 7} {
		msg, want := make([]byte, 6), make([]byte, 9)
		msg[i] = 1
		for node, point := range points {
			want[node] = raised(point, power)
		}
		encodes(t, c, msg, want)
	}
	encodes(t, c, []byte{9, 8, 7, 6, 5, 4}, x.values([]byte{9, 8, 0, 7, 6, 0, 5, 4}))
	encodes(t, made(t, nil, shape{10, 8, 4}), []byte{9, 8, 7, 6, 5, 4, 3, 2}, shape{10, 8, 4}.values([]byte{9, 8, 7, 6, 0, 5, 4, 3, 2}))
	encodes(t, made(t, nil, shape{6, 2, 2}), []byte{0, 1}, points[:6])
	encodes(t, made(t, nil, shape{6, 4, 2}), []byte{0, 0, 1, 0}, []byte{1, 1, 1, 8, 8, 8})
}

// P12.3, P12.1: the shares of the definition, for any field.
func TestEncode(t *testing.T) {
	for _, x := range all() {
		for _, f := range []*field.Field{field.New(), nil, {}} {
			c := made(t, f, x)
			for _, msg := range messages(x.k) {
				encodes(t, c, msg, x.shares(msg))
				if x.k > 100 && f == nil {
					break
				}
			}
		}
	}
}

// P12.3: messages of another length.
func TestEncodeWrongLength(t *testing.T) {
	for _, x := range all() {
		c := made(t, nil, x)
		for _, size := range []int{0, 1, x.r, x.n, x.tells(), x.k - 1, x.k + 1, 2 * x.k, x.k + 256, 70000} {
			if size == x.k {
				continue
			}
			if all, e := c.Encode(make([]byte, size)); e != api.ErrArg || len(all) != 0 {
				t.Errorf("Encode by %v of %d bytes: %v, %d", x, size, all, e)
			}
		}
		if all, e := c.Encode(nil); e != api.ErrArg || len(all) != 0 {
			t.Errorf("Encode by %v of nothing: %v, %d", x, all, e)
		}
	}
}

// P12.8: within a group the polynomial of a message is one of R coefficients.
func TestGroupPolynomial(t *testing.T) {
	for _, x := range all() {
		if x.r > 100 {
			continue
		}
		shares, _ := made(t, nil, x).Encode(mixed(x.n, x.k))
		for first := 0; first < x.n; first += x.r + 1 {
			var rows [][]byte
			for node := first; node <= first+x.r; node++ {
				row := []byte{1}
				for point := x.point(node); len(row) < x.r; {
					row = append(row, products[row[len(row)-1]][point])
				}
				rows = append(rows, append(row, shares[node]))
			}
			if _, ok := solved(rows, x.r); !ok {
				t.Errorf("%v: no polynomial of R coefficients for the group from %d on", x, first)
			}
		}
	}
}

// P12.1: without a code, whatever the arguments. The chapter does not speak of one that New did not make, but its calls must not panic.
func TestNoCode(t *testing.T) {
	for _, c := range []*local.Code{nil, {}} {
		is := func(what string, e api.Errno, empty bool) {
			t.Helper()
			if c == nil && (e != api.ErrNil || !empty) {
				t.Errorf("%s: the error %d, no results: %v", what, e, empty)
			}
		}
		is("Tells", api.ErrNil, c.Tells() == 0)
		for _, b := range [][]byte{nil, {}, {5}, {5, 6}, {5, 6, 7}} {
			all, e := c.Encode(b)
			is("Encode", e, len(all) == 0)
		}
		for _, node := range []int{0, 1, -1, 255, math.MaxInt, math.MinInt} {
			is("Group", api.ErrNil, len(c.Group(node)) == 0)
			for _, l := range [][]api.Symbols{nil, {}, {symbol(0, 5), symbol(1, 6)}, {symbol(-1)}, {symbol(0)}} {
				b, e := c.Near(node, l)
				is("Near", e, b == 0)
				for _, most := range []int{0, 1, -1, math.MaxInt, math.MinInt} {
					b, e := c.Repair(node, l, most)
					is("Repair", e, b == 0)
					msg, wrong, e := c.Decode(l, most)
					is("Decode", e, len(msg)+len(wrong) == 0)
				}
			}
		}
	}
}

// spoil changes a list, and all that is after its length in its memory.
func spoil[E byte | int](list []E) {
	list = list[:cap(list)]
	for i := range list {
		list[i] ^= 0x5a
	}
}

// longer returns symbols with more after the length of the list, and of each one's bytes, in their memory.
func longer(symbols []api.Symbols) []api.Symbols {
	out := make([]api.Symbols, 0, len(symbols)+4)
	for _, s := range append(symbols, symbol(1, 7), symbol(0, 8), symbol(2, 9)) {
		out = append(out, symbol(s.Node, append(append(make([]byte, 0, len(s.Data)+9), s.Data...), 41, 42, 43, 44, 45)[:len(s.Data)]...))
	}
	return out[:len(symbols)]
}

// whole are all bytes in the memory of symbols, also those after lengths.
func whole(symbols []api.Symbols) (out []int) {
	for _, s := range symbols[:cap(symbols)] {
		out = append(out, s.Node, len(s.Data))
		for _, b := range s.Data[:cap(s.Data)] {
			out = append(out, int(b))
		}
	}
	return out
}

// P12.7: arguments are left as they were, with what is after their length in their memory.
func TestArgumentsStay(t *testing.T) {
	for _, x := range small() {
		c := made(t, nil, x)
		msg := append(mixed(1, x.k), 1, 2, 3, 4, 5, 6, 7)
		kept := bytes.Clone(msg)
		c.Encode(msg[:x.k])
		c.Encode(msg)
		if !bytes.Equal(msg, kept) {
			t.Errorf("%v: a message was changed", x)
		}
		shares := x.shares(msg[:x.k])
		for most := range x.most() + 1 {
			for count := range most + 2 {
				told, helps := picked(shares, shuffled(most, x.n)), picked(shares, besides(shuffled(most, x.n), 0))
				for i := range count {
					told[i].Data[0] ^= 9
					helps[i].Data[0] ^= 9
				}
				told, helps = longer(told), longer(helps)
				one, two := whole(told), whole(helps)
				for _, t := range []int{most, x.n, -1} {
					c.Decode(told, t)
					c.Repair(0, helps, t)
					c.Repair(0, told, t)
					c.Near(0, helps)
					c.Near(0, helps[:count])
					c.Near(0, told)
				}
				if !slices.Equal(one, whole(told)) || !slices.Equal(two, whole(helps)) {
					t.Errorf("%v: arguments were changed: %v, %v", x, told, helps)
				}
			}
		}
	}
}

// P12.7: what the caller changes afterwards, in arguments or in results, changes nothing else, and no later result.
func TestNothingShared(t *testing.T) {
	for _, x := range small() {
		c := made(t, nil, x)
		msg := mixed(x.n, x.k)
		want := x.shares(msg)
		given := bytes.Clone(msg)
		first, _ := c.Encode(given)
		second, _ := c.Encode(given)
		spoil(given)
		spoil(first)
		if !bytes.Equal(second, want) {
			t.Errorf("%v: shares share memory: %v", x, second)
		}
		encodes(t, c, msg, want)
		for node := range x.n {
			one, two := c.Group(node), c.Group(node)
			spoil(one)
			if !slices.Equal(two, x.others(node)) || !slices.Equal(c.Group(node), two) {
				t.Errorf("%v: groups share memory: %v", x, two)
			}
		}
		for most := range x.most() + 1 {
			told := picked(want, shuffled(most, x.n))
			wrong := nodesAt(told, upTo(most))
			for i := range most {
				told[i].Data[0] ^= 77
			}
			one, nodes, _ := c.Decode(told, most)
			two, others, _ := c.Decode(told, most)
			spoil(one)
			spoil(nodes)
			decodes(t, c, told, most, msg, wrong)
			for i := range told {
				spoil(told[i].Data)
			}
			if !bytes.Equal(two, msg) || !slices.Equal(others, wrong) {
				t.Errorf("%v, %d: a message shares memory: %v, %v", x, most, two, others)
			}
		}
	}
}

// The rules for results: calls at once, of one code, have the results of calls one by one.
func TestAtOnce(t *testing.T) {
	x := shape{15, 6, 2}
	c := made(t, &field.Field{}, x)
	var calls sync.WaitGroup
	for seed := range 8 {
		calls.Go(func() {
			msg := mixed(seed, x.k)
			want := x.shares(msg)
			encodes(t, c, msg, want)
			if got := c.Group(seed); !slices.Equal(got, x.others(seed)) {
				t.Errorf("Group of %d: %v", seed, got)
			}
			helps := picked(want, besides(shuffled(seed, x.n), seed))
			nears(t, c, seed, helps, want[seed])
			helps[3].Data[0] ^= 7
			repairs(t, c, seed, helps, 2, want[seed])
			told := picked(want, shuffled(seed, x.n))
			told[0].Data[0] ^= 7
			decodes(t, c, told, 3, msg, []int{told[0].Node})
			decodesNot(t, c, told, 0, api.ErrLost)
		})
	}
	calls.Wait()
}
