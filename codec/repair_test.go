package codec_test

import (
	"bytes"
	"slices"
	"testing"

	"starfish/api"
	"starfish/codec"
)

// sends reports a result of Help that is not these bytes.
func sends(t *testing.T, x *codec.Codec, from, to int, share, want []byte) {
	t.Helper()
	if help, e := x.Help(from, to, share); e != api.OK || !bytes.Equal(help, want) {
		t.Errorf("%v: Help from %d to %d of %v: %v, %d, want %v", x.Config(), from, to, share, help, e, want)
	}
}

// sendsNot reports a result of Help that is not ErrArg alone.
func sendsNot(t *testing.T, x *codec.Codec, from, to int, share []byte) {
	t.Helper()
	if help, e := x.Help(from, to, share); e != api.ErrArg || len(help) != 0 {
		t.Errorf("%v: Help from %d to %d of %v: %v, %d, want ErrArg", x.Config(), from, to, share, help, e)
	}
}

// repairs reports a result of Repair that is not this share, and these nodes.
func repairs(t *testing.T, x *codec.Codec, to int, helps []api.Symbols, share []byte, nodes []int) {
	t.Helper()
	got, wrong, e := x.Repair(to, helps)
	if e != api.OK || !bytes.Equal(got, share) || !slices.Equal(wrong, nodes) {
		t.Errorf("%v: Repair of %d from %v: %v, %v, %d, want %v, %v", x.Config(), to, helps, got, wrong, e, share, nodes)
	}
}

// repairsNot reports a result of Repair that is not this error alone.
func repairsNot(t *testing.T, x *codec.Codec, to int, helps []api.Symbols, want api.Errno) {
	t.Helper()
	if share, wrong, e := x.Repair(to, helps); e != want || len(share) != 0 || len(wrong) != 0 {
		t.Errorf("%v: Repair of %d from %v: %v, %v, %d, want the error %d", x.Config(), to, helps, share, wrong, e, want)
	}
}

// asks reports a result of Helpers that is not this one.
func asks(t *testing.T, x *codec.Codec, to int, have, want []int, ok bool) {
	t.Helper()
	if got, is := x.Helpers(to, have); is != ok || !slices.Equal(got, want) {
		t.Errorf("%v: Helpers of %d among %v: %v, %v, want %v, %v", x.Config(), to, have, got, is, want, ok)
	}
}

// P14.5: what each node sends to each other one; of any bytes, not only of shares.
func TestHelp(t *testing.T) {
	for _, c := range all() {
		x, m := made(t, c), modelOf(t, c)
		for seed := range 400 {
			from, to := seed%c.N, seed/c.N*3%c.N
			if from == to {
				continue
			}
			share := mixed(seed, x.Shape().Alpha)
			if seed%7 == 0 {
				clear(share)
			}
			want := share
			if !m.worded() {
				b, _ := m.help(from, to, share)
				want = []byte{b}
			}
			sends(t, x, from, to, share, want)
		}
	}
}

// P14.5: wrong arguments.
func TestHelpWrongArguments(t *testing.T) {
	for _, c := range all() {
		x := made(t, c)
		alpha := x.Shape().Alpha
		for _, no := range outside(c.N) {
			sendsNot(t, x, no, 0, make([]byte, alpha))
			sendsNot(t, x, 0, no, make([]byte, alpha))
			sendsNot(t, x, no, no, make([]byte, alpha))
			sendsNot(t, x, no, c.N-1, nil)
		}
		for _, node := range []int{0, 1, c.N - 1} {
			sendsNot(t, x, node, node, make([]byte, alpha))
			for _, size := range []int{0, alpha - 1, alpha + 1, 2 * alpha, alpha + 256, 70000} {
				if size != alpha {
					sendsNot(t, x, node, (node+1)%c.N, make([]byte, size))
				}
			}
			sendsNot(t, x, node, (node+1)%c.N, nil)
		}
	}
}

// isRepaired reports a result of Repair that is not that of the model, and returns the error of that.
func isRepaired(t *testing.T, x *codec.Codec, m *model, to int, helps []api.Symbols) api.Errno {
	t.Helper()
	share, wrong, e := m.repaired(to, helps)
	if e == api.OK {
		repairs(t, x, to, helps, share, wrong)
	} else {
		repairsNot(t, x, to, helps, e)
	}
	return e
}

// P14.6, P14.9: each node, by what Helpers asks among all, and by all others, in any order, with each choice of wrong ones up to T.
func TestRepair(t *testing.T) {
	for _, c := range small() {
		x, m := made(t, c), modelOf(t, c)
		shares := m.shares(mixed(c.N, x.Shape().B))
		for to := range c.N {
			asked, _ := x.Helpers(to, upTo(c.N))
			for seed, nodes := range append(orders(to, c.N), asked) {
				helps := m.helps(to, shares, besides(nodes, to))
				for count := range c.T + 1 {
					for i, at := range some(choices(len(helps), count)) {
						repairs(t, x, to, changed(helps, at, i+seed), shares[to], nodesAt(helps, at))
					}
				}
			}
		}
	}
}

// P14.9: whichever others are there, if Helpers asks some, what they send repairs the node, as many of them being wrong as may be; one of them less is too few.
func TestRepairByHelpers(t *testing.T) {
	for _, c := range small() {
		x, m := made(t, c), modelOf(t, c)
		shares := m.shares(mixed(c.K, x.Shape().B))
		for to := range c.N {
			for count := range c.N + 1 {
				for i, have := range some(choices(c.N, count))[:1+len(choices(c.N, count))/8] {
					asked, ok := x.Helpers(to, have)
					if !ok {
						continue
					}
					var helps []api.Symbols
					for _, from := range asked {
						help, e := x.Help(from, to, shares[from])
						if e != api.OK {
							t.Errorf("%v: Help from %d to %d: %d", c, from, to, e)
						}
						helps = append(helps, symbol(from, help...))
					}
					at := shuffled(i, len(helps))[:c.T]
					repairs(t, x, to, changed(helps, at, i), shares[to], nodesAt(helps, at))
					less := i % len(helps)
					repairsNot(t, x, to, slices.Delete(copied(helps), less, less+1), api.ErrFew)
				}
			}
		}
	}
}

// P14.6: codes with many nodes, with as many wrong helps as may be, and one more.
func TestRepairLarge(t *testing.T) {
	for i, c := range large() {
		x, m := made(t, c), modelOf(t, c)
		shares := m.shares(mixed(i, x.Shape().B))
		for _, to := range []int{0, c.N / 2, c.N - 1} {
			for _, nodes := range [][]int{besides(shuffled(i, c.N), to), m.others(to)} {
				if len(nodes) < x.Shape().Asked {
					continue
				}
				helps := m.helps(to, shares, nodes)
				at := shuffled(to, len(nodes))[:c.T]
				repairs(t, x, to, changed(helps, at, i), shares[to], nodesAt(helps, at))
				if c.T > 0 && len(helps) >= m.needs()+2 { // so that no other share is as near
					repairsNot(t, x, to, changed(helps, shuffled(to, len(nodes))[:c.T+1], i), api.ErrLost)
				}
			}
		}
	}
}

// P14.6: whatever the bytes, from however many nodes, compared with the model.
func TestRepairAnything(t *testing.T) {
	counts := map[api.Errno]int{}
	for _, c := range small() {
		x, m := made(t, c), modelOf(t, c)
		for seed := range 60 {
			to := seed % c.N
			nodes := besides(shuffled(seed, c.N), to)
			nodes = nodes[:len(nodes)-seed/3%len(nodes)]
			helps := m.helps(to, m.shares(mixed(seed, x.Shape().B)), nodes)
			count := min(c.T+seed%3, len(nodes))
			helps = changed(helps, shuffled(seed+1, len(nodes))[:count], seed/3)
			counts[isRepaired(t, x, m, to, helps)]++
			isRepaired(t, x, m, to, append(picks(helps, m.others(to)), picks(helps, besides(nodes, m.others(to)...))...))
		}
	}
	if counts[api.OK] < 800 || counts[api.ErrLost] < 400 || counts[api.ErrFew] < 800 {
		t.Errorf("only so many by error: %v", counts)
	}
}

// P14.6: a node in a group is repaired by the others of it alone, whatever other nodes send; if one of them is not there, by a message.
func TestRepairNear(t *testing.T) {
	for _, c := range []api.Config{{Code: 5, N: 6, K: 2, R: 2, W: 4}, {Code: 5, N: 9, K: 4, R: 2, W: 8}, {Code: 5, N: 10, K: 4, R: 4, W: 4}, {Code: 5, N: 15, K: 4, R: 2, W: 9}} {
		x, m := made(t, c), modelOf(t, c)
		shares := m.shares(mixed(c.K, x.Shape().B))
		for to := range c.N {
			group := m.others(to)
			far := besides(upTo(c.N), append(group, to)...)
			near := m.helps(to, shares, group)
			for count := range len(far) + 1 {
				away := changed(m.helps(to, shares, far[:count]), upTo(count), to)
				repairs(t, x, to, slices.Concat(away, near), shares[to], nil)
				repairs(t, x, to, slices.Concat(near, away), shares[to], nil)
			}
			lies := changed(near, []int{to % c.R}, to)
			share, e := m.local.Near(to, lies)
			if e != api.OK || share == shares[to][0] {
				t.Errorf("%v: Near: %d, %d", c, share, e)
			}
			repairs(t, x, to, append(m.helps(to, shares, far), lies...), []byte{share}, nil)
			less := append(m.helps(to, shares, far), lies[1:]...)
			if to%c.R > 0 {
				repairsNot(t, x, to, less, api.ErrLost)
			} else {
				repairs(t, x, to, less, shares[to], nil)
			}
		}
	}
}

// P14.6: where nodes may lie, a group alone repairs no node.
func TestRepairGroupAlone(t *testing.T) {
	for _, c := range []api.Config{{Code: 5, N: 9, K: 2, R: 2, T: 1, W: 4}, {Code: 5, N: 10, K: 4, R: 4, T: 1, W: 6}} {
		x, m := made(t, c), modelOf(t, c)
		shares := m.shares(mixed(c.K, x.Shape().B))
		for to := range c.N {
			first := to / (c.R + 1) * (c.R + 1)
			group := besides(upTo(c.N)[first:first+c.R+1], to)
			helps := m.helps(to, shares, group)
			repairsNot(t, x, to, helps, api.ErrFew)
			helps = append(helps, m.helps(to, shares, besides(upTo(c.N), append(group, to)...))...)
			repairs(t, x, to, changed(helps, []int{0}, to), shares[to], group[:1])
		}
	}
}

// P14.6: wrong arguments, also where another error would hold.
func TestRepairWrongArguments(t *testing.T) {
	for i, c := range all() {
		x, m := made(t, c), modelOf(t, c)
		shares := m.shares(mixed(i, x.Shape().B))
		for _, to := range []int{0, 1, c.N - 1} {
			for _, nodes := range [][]int{besides(shuffled(i, c.N), to), besides(upTo(c.N), to)[:1], append(m.others(to), besides(upTo(c.N), append(m.others(to), to)...)...)} {
				for _, change := range wrongSymbols(c.N, 1) {
					repairsNot(t, x, to, change(m.helps(to, shares, nodes)), api.ErrArg)
				}
				own := symbol(to, 1)
				repairsNot(t, x, to, append(m.helps(to, shares, nodes), own), api.ErrArg)
				repairsNot(t, x, to, append([]api.Symbols{own}, m.helps(to, shares, nodes[1:])...), api.ErrArg)
				for _, no := range outside(c.N) {
					repairsNot(t, x, no, m.helps(to, shares, nodes), api.ErrArg)
				}
			}
			repairsNot(t, x, to, []api.Symbols{symbol(to, 1)}, api.ErrArg)
			repairsNot(t, x, to, nil, api.ErrFew)
			repairsNot(t, x, to, []api.Symbols{}, api.ErrFew)
		}
		for _, no := range outside(c.N) {
			repairsNot(t, x, no, nil, api.ErrArg)
		}
	}
}

// isAsked reports a result of Helpers that is not that of the model.
func isAsked(t *testing.T, x *codec.Codec, m *model, to int, have []int) {
	t.Helper()
	want, ok := m.asked(to, have)
	asks(t, x, to, have, want, ok)
}

// P14.7: each choice of nodes that are there, in any order, some twice, with numbers of no node and the node itself among them.
func TestHelpers(t *testing.T) {
	for _, c := range small() {
		x, m := made(t, c), modelOf(t, c)
		for to := -1; to <= c.N; to++ {
			for count := range c.N + 1 {
				for i, have := range some(choices(c.N, count)) {
					isAsked(t, x, m, to, have)
					isAsked(t, x, m, to, append(have, to, outside(c.N)[i%12]))
					slices.Reverse(have)
					isAsked(t, x, m, to, slices.Concat(outside(c.N)[i%12:], have, have[:len(have)/2], []int{to, to}))
				}
			}
			isAsked(t, x, m, to, nil)
			isAsked(t, x, m, to, []int{})
		}
	}
}

// P14.7: codes with many nodes: just as many as are needed, one fewer, all, and all but one of a group.
func TestHelpersLarge(t *testing.T) {
	for i, c := range large() {
		x, m := made(t, c), modelOf(t, c)
		for _, to := range []int{0, c.N / 2, c.N - 1} {
			others := besides(shuffled(i, c.N), to)
			for _, count := range []int{0, 1, m.needs() - 1, m.needs(), c.N - 1} {
				isAsked(t, x, m, to, others[:min(count, c.N-1)])
				isAsked(t, x, m, to, append(others[:min(count, c.N-1)], m.others(to)...))
				isAsked(t, x, m, to, besides(others[:min(count, c.N-1)], m.others(to)...))
			}
			for _, out := range m.others(to) {
				isAsked(t, x, m, to, besides(others, out))
				isAsked(t, x, m, to, besides(m.others(to), out))
			}
			isAsked(t, x, m, to, slices.Repeat(others, 20))
			isAsked(t, x, m, to, slices.Repeat(others[:1], 1000))
		}
		for _, no := range outside(c.N) {
			asks(t, x, no, upTo(c.N), nil, false)
			asks(t, x, no, upTo(c.N)[1:], nil, false)
		}
	}
}

// P14.7: as many as are asked are Asked of the shape, if all others are there.
func TestHelpersCount(t *testing.T) {
	for _, c := range all() {
		x := made(t, c)
		for to := range c.N {
			if asked, ok := x.Helpers(to, upTo(c.N)); !ok || len(asked) != x.Shape().Asked {
				t.Errorf("%v: %d: %v, %v", c, to, asked, ok)
			}
		}
	}
}
