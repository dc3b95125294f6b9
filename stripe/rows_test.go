package stripe_test

import (
	"bytes"
	"slices"
	"testing"

	"starfish/api"
)

// some are these choices, or a part of them if they are many.
func some(choices [][]int) (out [][]int) {
	for i := 0; i < len(choices); i += len(choices)/25 + 1 {
		out = append(out, choices[i])
	}
	return out
}

// P15.4, P15.6, P15.7, P15.9: choices of wrong nodes up to T, in several ways, of all that may be there, and of just enough, in any order.
func TestWrong(t *testing.T) {
	for i, c := range small() {
		s, m := made(t, c), modelOf(t, c)
		for _, x := range calls {
			for way := range 14 {
				to := way % c.N
				value := mixed(i+way, 1+i%40)
				rows := m.rows(value)
				all := x.given(m, to, rows)
				given := ordered(all, shuffled(way, len(all)))
				if way%2 == 1 {
					given = given[:x.needs(m)]
				}
				for count := range c.T + 1 {
					for seed, at := range some(choices(len(given), count)) {
						x.is(t, m, s, to, changed(given, at, way+7*seed), x.want(to, value, rows), nodesAt(given, at))
					}
				}
			}
		}
	}
}

// P15.4, P15.6, P15.7: nodes that are wrong in one byte each, wherever it is, each in another stripe; one more than T is too many, though in no stripe.
func TestWrongApart(t *testing.T) {
	for i, c := range all() {
		if c.T == 0 {
			continue
		}
		s, m := made(t, c), modelOf(t, c)
		value := mixed(i, 4*m.shape.B+4*c.T*m.shape.B)
		if len(value) > 4096 {
			value = value[:4096]
		}
		rows := m.rows(value)
		for _, x := range calls {
			for to := range 1 + 5/c.N {
				all := x.given(m, to, rows)
				size := x.size(m)
				stripes := len(all[0].Data) / size
				order := shuffled(i, len(all))
				given := ordered(all, order)
				given = given[:min(len(given), x.needs(m)+2)]
				for n := range c.T {
					given[n].Data[n%stripes*size+(i+n)%size] ^= byte(n + 1)
				}
				want := x.want(to, value, rows)
				x.is(t, m, s, to, given, want, nodesAt(given, upTo(c.T)))
				slices.Reverse(given)
				x.is(t, m, s, to, given, want, nodesAt(given, upTo(len(given))[len(given)-c.T:]))
				if len(given) > x.needs(m)+1 { // so that nothing else is as near
					for _, at := range []int{0, len(given[0].Data) - 1, c.T % stripes * size} {
						more := copied(given)
						more[0].Data[at] ^= 9
						x.isNot(t, m, s, to, more, api.ErrLost)
					}
				}
			}
		}
	}
}

// P15.4, P15.6, P15.7: whatever is there, compared with all choices of wrong ones.
func TestAnything(t *testing.T) {
	counts := map[api.Errno]int{}
	for i, c := range small() {
		s, m := made(t, c), modelOf(t, c)
		for _, x := range calls {
			for seed := range 40 {
				to := seed % c.N
				all := x.given(m, to, m.rows(mixed(seed, seed%23)))
				all = ordered(all, shuffled(seed+i, len(all))[:len(all)-seed/3%2])
				for count := range min(c.T+2, len(all)) { // each wrong one in its way
					all = changed(all, []int{(seed + count) % len(all)}, seed/5+seed/(count+2))
				}
				counts[x.asModel(t, m, s, to, all)]++
			}
		}
	}
	if counts[api.OK] < 500 || counts[api.ErrLost] < 500 || counts[api.ErrFew] < 500 || counts[api.ErrWrong] < 100 {
		t.Errorf("only so many by error: %v", counts)
	}
}

// P15.4, P15.6, P15.7: no value is, but rows are; bytes of which none is right.
func TestOfNoValue(t *testing.T) {
	for i, c := range small() {
		s, m := made(t, c), modelOf(t, c)
		for seed := range 12 {
			packed := mixed(i+seed, m.shape.B*(1+seed%4))
			rows := m.rowsOf(packed)
			for _, x := range calls {
				for to := range min(c.N, 3) {
					all := x.given(m, to, rows)
					given := changed(all, shuffled(seed, len(all))[:c.T], seed)
					if x.name == "Join" && len(packed) > 0 && x.asModel(t, m, s, to, given) != api.ErrWrong {
						t.Errorf("%v: a value has the stripes %v", c, packed)
					}
					if x.name != "Join" {
						x.is(t, m, s, to, given, rows[to], nodesAt(given, shuffled(seed, len(all))[:c.T]))
					}
					if len(given) > x.needs(m)+c.T+1 && (x.name != "Repair" || !m.groupOf(to, given)) {
						x.isNot(t, m, s, to, changed(all, upTo(c.T+1), 0), api.ErrLost)
					}
				}
			}
		}
	}
}

// P15.4: stripes that begin with a wrong number of bytes, have others after the value, or are more or fewer than it has.
func TestJoinNoValue(t *testing.T) {
	for i, c := range all() {
		s, m := made(t, c), modelOf(t, c)
		b := m.shape.B
		isNot := func(packed []byte) {
			t.Helper()
			rows := m.rowsOf(packed)
			given := picked(rows, shuffled(i, c.N)[:calls[0].needs(m)])
			if (len(rows[0])/m.shape.Alpha == len(packed)/b) && len(packed) > 0 {
				calls[0].isNot(t, m, s, 0, given, api.ErrWrong)
			}
		}
		for _, size := range []int{0, 1, 2, 5, 2*b + 1, 300} {
			packed := m.packed(mixed(size, size))
			calls[0].is(t, m, s, 0, picked(m.rowsOf(packed), shuffled(i, c.N)), mixed(size, size), nil)
			isNot(packed[:len(packed)-b])
			isNot(append(bytes.Clone(packed), make([]byte, b)...))
			isNot(append(bytes.Clone(packed), make([]byte, 3*b)...))
			for at := 4 + size; at < len(packed); at += 1 + (len(packed)-5-size)/3 {
				more := bytes.Clone(packed)
				more[at] = byte(at | 1)
				isNot(more)
			}
			last := bytes.Clone(packed)
			if len(packed) > 4+size {
				last[len(last)-1] = 128
				isNot(last)
			}
			for _, wrong := range [][]byte{{255, 255, 255, 255}, {128, 0, 0, byte(size)}, {1, 0, 0, byte(size)}, {0, 1, 0, byte(size)}, {0, 0, 16, 1}, {0, 0, 255, 255}, {127, 255, 255, 255}, {0, 0, byte((size + b) / 256), byte(size + b)}, {255, 255, 255, 252}, {byte(size), 0, 0, 0}} {
				if value := append(wrong, packed[4:]...); !bytes.Equal(value, packed) {
					isNot(value)
				}
			}
		}
		for count := 1; count*b < 4; count++ {
			isNot(make([]byte, count*b))
		}
	}
}

// P15.4: rows of the largest value, one byte more in its number, and one stripe more.
func TestJoinLargest(t *testing.T) {
	for i, c := range all() {
		s, m := made(t, c), modelOf(t, c)
		value := mixed(i, 4096)
		packed := m.packed(value)
		given := picked(m.rowsOf(packed), shuffled(i, c.N))
		calls[0].is(t, m, s, 0, given, value, nil)
		if len(packed) > 4100 {
			packed[3]++
			calls[0].isNot(t, m, s, 0, picked(m.rowsOf(packed), upTo(c.N)), api.ErrWrong)
			packed[3]--
		}
		longest := picked(m.rowsOf(append(packed, make([]byte, m.shape.B)...)), upTo(c.N))
		for _, x := range calls {
			given := besidesNode(longest, 0)
			if x.name == "Repair" {
				given = x.given(m, 0, m.rowsOf(append(packed, make([]byte, m.shape.B)...)))
			}
			x.isNot(t, m, s, 0, given, api.ErrArg)
		}
	}
}

// besidesNode are all symbols but those of one node.
func besidesNode(all []api.Symbols, node int) []api.Symbols {
	return slices.DeleteFunc(slices.Clone(all), func(s api.Symbols) bool { return s.Node == node })
}

// P15.4, P15.6, P15.7: of different lengths the valid one counts that most have, of several the least.
func TestLengths(t *testing.T) {
	counts := map[api.Errno]int{}
	for i, c := range small() {
		s, m := made(t, c), modelOf(t, c)
		for _, x := range calls {
			size := x.size(m)
			lengths := []int{size, 2 * size, 3 * size, 0, 2*size + 1, size - 1, 3*size - 1, s.Stripes(4096) * size, (s.Stripes(4096) + 1) * size, 70000 * size}
			for seed := range 30 {
				to := seed % c.N
				all := x.given(m, to, m.rows(mixed(seed, seed%5)))
				for j, b := range mixed(i+seed, len(all)) {
					choice := lengths[int(b)%(1+seed%len(lengths))]
					if b&16 != 0 {
						choice = lengths[seed%3]
					}
					if seed%6 == 5 {
						choice = lengths[3+int(b)%4]
					}
					data := make([]byte, choice)
					if seed%4 != 0 {
						copy(data, all[j].Data)
					}
					all[j].Data = data
				}
				counts[x.asModel(t, m, s, to, all)]++
			}
		}
	}
	if counts[api.OK] < 500 || counts[api.ErrLost] < 500 || counts[api.ErrArg] < 300 || counts[api.ErrWrong] < 500 {
		t.Errorf("only so many by error: %v", counts)
	}
}

// P15.4, P15.6, P15.7: in a code in which all rows of a value are its stripes.
func TestLengthsOfOne(t *testing.T) {
	c := api.Config{Code: 1, N: 5, K: 1, T: 1, W: 3}
	s, m := made(t, c), modelOf(t, c)
	none := []byte{}
	for _, x := range []struct {
		rows  [][]byte // of the nodes from 1 on
		want  []byte
		wrong []int
	}{
		{[][]byte{{5, 6}, {5, 6}, {5, 6}}, []byte{5, 6}, nil},
		{[][]byte{{5, 6}, {5, 6}, {5}}, []byte{5, 6}, []int{3}},
		{[][]byte{{5, 6, 7}, {5, 6}, {5, 6}}, []byte{5, 6}, []int{1}},
		{[][]byte{{5, 6}, none, {5, 6}}, []byte{5, 6}, []int{2}},
		{[][]byte{{5, 6}, {5, 6}, {5}, {5}}, nil, nil},
		{[][]byte{{5, 6, 7}, {5, 6, 7}, {5, 6}, {5, 6}}, nil, nil},
		{[][]byte{{5, 6}, {5, 6}, {5, 6}, {5}}, []byte{5, 6}, []int{4}},
		{[][]byte{{5}, {5, 6}, {5, 6, 7}}, []byte{0}, []int{1}},
		{[][]byte{{5, 6}, {5, 6, 7}, none}, []byte{0, 0}, []int{1}},
		{[][]byte{none, none, {5, 6}, none}, []byte{0, 0}, []int{3}},
		{[][]byte{none, make([]byte, 4101), {5}, make([]byte, 4101)}, []byte{0}, []int{3}},
		{[][]byte{{0, 0}, {0, 0}, {0}}, []byte{0, 0}, nil},
		{[][]byte{{5, 6}, {5, 7}, {5, 6}, {5}}, nil, nil},
		{[][]byte{{4, 6}, {5, 7}, {5, 6}, {5, 6}}, nil, nil},
		{[][]byte{{5, 6}, {5, 6}, {5, 6, 7}, {5, 6, 7}}, nil, nil},
	} {
		var all []api.Symbols
		for i, row := range x.rows {
			all = append(all, symbol(i+1, row...))
		}
		for _, call := range calls[1:] {
			if x.want == nil {
				call.isNot(t, m, s, 0, all, api.ErrLost)
			} else {
				call.is(t, m, s, 0, all, x.want, x.wrong)
			}
		}
	}
}

// P15.4, P15.6, P15.7: rows that are zeros, and of which as many as may be have another length, so that they count as what they are; those of the others decide by their length.
func TestLengthOfZeros(t *testing.T) {
	for _, c := range small() {
		s, m := made(t, c), modelOf(t, c)
		rows := m.rows(nil)
		for _, x := range calls {
			all := x.given(m, 0, rows)
			right := all[0].Data
			for i := range all[:(len(all)-1)/2] {
				all[i].Data = make([]byte, len(right)+x.size(m))
			}
			x.is(t, m, s, 0, all, x.want(0, nil, rows), nil)
			for i := range all[:len(all)/2+len(all)%2] {
				all[i].Data = make([]byte, i)
			}
			all[len(all)-1].Data = right
			x.asModel(t, m, s, 0, all)
		}
	}
}

// P15.4, P15.6, P15.7: none, and fewer than needed; also if some of these are wrong.
func TestFew(t *testing.T) {
	for i, c := range all() {
		s, m := made(t, c), modelOf(t, c)
		rows := m.rows(mixed(i, 10))
		for _, x := range calls {
			all := x.given(m, 0, rows)
			slices.Reverse(all) // so that it begins with other groups
			x.isNot(t, m, s, 0, nil, api.ErrArg)
			x.isNot(t, m, s, 0, []api.Symbols{}, api.ErrArg)
			for _, count := range []int{1, 2, c.K - 1, m.shape.Tells - 1, m.shape.Tells, x.needs(m) - 2, x.needs(m) - 1} {
				if count > 0 && count < x.needs(m) {
					x.isNot(t, m, s, 0, all[:count], api.ErrFew)
					x.isNot(t, m, s, 0, changed(all[:count], upTo(count), 7*i), api.ErrFew)
				}
			}
		}
	}
}

// P15.4, P15.6, P15.7: wrong arguments, also where another error would hold.
func TestWrongArguments(t *testing.T) {
	for i, c := range all() {
		s, m := made(t, c), modelOf(t, c)
		rows := m.rows(mixed(i, 10))
		for _, x := range calls {
			size := x.size(m)
			for _, to := range []int{0, c.N - 1} {
				for _, count := range []int{1, x.needs(m), c.N - 1} {
					given := x.given(m, to, rows)[:count]
					for _, no := range outside(c.N) {
						if x.name != "Join" {
							x.isNot(t, m, s, no, given, api.ErrArg)
							x.isNot(t, m, s, no, nil, api.ErrArg)
						}
						for _, at := range []int{0, count - 1} {
							wrong := copied(given)
							wrong[at].Node = no
							x.isNot(t, m, s, to, wrong, api.ErrArg)
						}
						x.isNot(t, m, s, to, append(copied(given), symbol(no, given[0].Data...)), api.ErrArg)
						x.isNot(t, m, s, to, append(copied(given), symbol(no)), api.ErrArg)
					}
					for _, twice := range []api.Symbols{given[0], given[count-1], symbol(given[0].Node), symbol(given[0].Node, make([]byte, size)...)} {
						x.isNot(t, m, s, to, append(copied(given), twice), api.ErrArg)
					}
					x.isNot(t, m, s, to, slices.Repeat(given, 300), api.ErrArg)
					if x.name != "Join" {
						x.isNot(t, m, s, to, append(copied(given), symbol(to, given[0].Data...)), api.ErrArg)
						x.isNot(t, m, s, to, append(copied(given), symbol(to)), api.ErrArg)
						x.isNot(t, m, s, to, []api.Symbols{symbol(to, given[0].Data...)}, api.ErrArg)
					}
					for _, length := range []int{0, size - 1, size + 1, (s.Stripes(4096) + 1) * size, s.Stripes(4096)*size + 1} {
						if length%size != 0 || length == 0 || length > s.Stripes(4096)*size {
							none := copied(given)
							for i := range none {
								none[i].Data = make([]byte, length)
							}
							x.isNot(t, m, s, to, none, api.ErrArg)
						}
					}
				}
			}
		}
	}
}

// P15.9: whichever nodes are there, what those send that Helpers returns repairs a row, with one byte for a stripe, as many being wrong as may be, also by another length.
func TestRepairByHelpers(t *testing.T) {
	for _, c := range small() {
		s, m := made(t, c), modelOf(t, c)
		value := mixed(c.K, 17)
		rows := m.rows(value)
		for to := range c.N {
			for count := range c.N + 1 {
				for i, have := range some(choices(c.N, count)) {
					asked, ok := m.codec.Helpers(to, have)
					if !ok {
						continue
					}
					var helps []api.Symbols
					for _, from := range asked {
						help, e := s.Help(from, to, rows[from])
						if e != api.OK || len(help) != s.Stripes(len(value)) {
							t.Errorf("%v: Help from %d to %d: %v, %d", c, from, to, help, e)
						}
						helps = append(helps, symbol(from, help...))
					}
					at := shuffled(i, len(helps))[:c.T]
					calls[2].is(t, m, s, to, changed(helps, at, i), rows[to], nodesAt(helps, at))
				}
			}
		}
	}
}

// P15.6: a node in a group is repaired by the others of it alone, whatever other nodes send, as far as their length does not count.
func TestRepairNear(t *testing.T) {
	for _, c := range []api.Config{{Code: 5, N: 6, K: 2, R: 2, W: 4}, {Code: 5, N: 9, K: 4, R: 2, W: 8}, {Code: 5, N: 10, K: 4, R: 4, W: 4}} {
		s, m := made(t, c), modelOf(t, c)
		rows := m.rows(mixed(c.N, 21))
		for to := range c.N {
			near, far := []api.Symbols{}, []api.Symbols{}
			for _, one := range calls[2].given(m, to, rows) {
				if one.Node/(c.R+1) == to/(c.R+1) {
					near = append(near, one)
				} else {
					far = append(far, one)
				}
			}
			calls[2].is(t, m, s, to, near, rows[to], nil)
			for way := range 7 {
				lies := changed(far, upTo(min(way, len(far))), way)
				if len(lies[0].Data) == len(near[0].Data) {
					calls[2].is(t, m, s, to, slices.Concat(lies, near), rows[to], nil)
				}
				calls[2].asModel(t, m, s, to, slices.Concat(lies, near))
				calls[2].asModel(t, m, s, to, slices.Concat(far, changed(near, []int{way % c.R}, way)))
				calls[2].asModel(t, m, s, to, slices.Concat(near[1:], lies))
			}
		}
	}
}

// P15.4, P15.6, P15.7: many nodes, as many of which are wrong as may be, in the largest value.
func TestLarge(t *testing.T) {
	for i, c := range large() {
		s, m := made(t, c), modelOf(t, c)
		value := mixed(i, 4096)
		rows := m.rows(value)
		for way, x := range calls {
			to := i * 7 % c.N
			all := x.given(m, to, rows)
			at := shuffled(i, len(all))[:c.T]
			x.is(t, m, s, to, changed(all, at, i+way), x.want(to, value, rows), nodesAt(all, at))
			x.is(t, m, s, to, changed(all, at[:c.T/2], 0), x.want(to, value, rows), nodesAt(all, at[:c.T/2]))
		}
	}
}
