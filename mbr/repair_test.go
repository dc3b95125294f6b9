package mbr_test

import (
	"bytes"
	"math"
	"slices"
	"testing"

	"starfish/api"
	"starfish/field"
	"starfish/mbr"
)

// repairs reports a result of Repair that is not this share, and these nodes.
func repairs(t *testing.T, c *mbr.Code, to int, helps []api.Symbols, most int, share []byte, nodes []int) {
	t.Helper()
	got, wrong, e := c.Repair(to, helps, most)
	if e != api.OK || !bytes.Equal(got, share) || !slices.Equal(wrong, nodes) {
		t.Errorf("Repair of %d from %v, %d: %v, %v, %d, want %v, %v", to, helps, most, got, wrong, e, share, nodes)
	}
}

// repairsNot reports a result of Repair that is not this error alone.
func repairsNot(t *testing.T, c *mbr.Code, to int, helps []api.Symbols, most int, want api.Errno) {
	t.Helper()
	if share, wrong, e := c.Repair(to, helps, most); e != want || len(share) != 0 || len(wrong) != 0 {
		t.Errorf("Repair of %d from %v, %d: %v, %v, %d, want the error %d", to, helps, most, share, wrong, e, want)
	}
}

// P10.5, P10.8: the share of each node, from any helpers, in any order, with each choice of wrong bytes up to t; what they send is that of Help.
func TestRepair(t *testing.T) {
	for _, x := range small() {
		c := made(t, field.New(), x)
		shares, _ := c.Encode(mixed(x.n, x.b()))
		for to := range x.n {
			all := make([][]byte, x.n)
			for from := range x.n {
				b, _ := c.Help(from, to, shares[from])
				all[from] = []byte{b}
			}
			for most := 0; x.d+2*most < x.n; most++ {
				for seed, nodes := range orders(to, x.n) {
					nodes = besides(nodes, to)
					if seed%2 == 1 {
						nodes = nodes[:x.d+2*most]
					}
					for count := range most + 1 {
						for _, at := range choices(len(nodes), count) {
							helps := picked(all, nodes)
							for _, i := range at {
								helps[i].Data[0] ^= byte(i*57 + seed + 1)
							}
							repairs(t, c, to, helps, most, shares[to], nodesAt(helps, at))
						}
					}
				}
			}
		}
	}
}

// P10.5, P10.8: any D nodes repair another one.
func TestRepairAnyNodes(t *testing.T) {
	for _, x := range small() {
		c := made(t, nil, x)
		shares := x.shares(mixed(x.d, x.b()))
		for to := range x.n {
			all := x.helps(to, shares)
			for _, nodes := range choices(x.n, x.d) {
				if !slices.Contains(nodes, to) {
					repairs(t, c, to, picked(all, nodes), 0, shares[to], nil)
				}
			}
		}
	}
}

// P10.5, P10.8: codes at the limits.
func TestRepairLarge(t *testing.T) {
	for _, x := range append(large(), greatest()...) {
		c := made(t, field.New(), x)
		shares, _ := c.Encode(mixed(x.n, x.b()))
		for _, to := range []int{0, x.n / 2, x.n - 1} {
			for _, most := range []int{0, 1, (x.n - 1 - x.d) / 2} {
				if x.d+2*most >= x.n {
					continue
				}
				nodes := besides(shuffled(to, x.n), to)[:x.d+2*most]
				helps := picked(x.helps(to, shares), nodes)
				at := shuffled(most, len(nodes))[:most]
				for _, i := range at {
					helps[i].Data[0] += byte(i%255 + 1)
				}
				repairs(t, c, to, helps, most, shares[to], nodesAt(helps, at))
			}
		}
	}
}

// P10.5: whatever the bytes, compared with all choices of wrong ones: also bytes that no message gives.
func TestRepairAnything(t *testing.T) {
	lost, told := 0, 0
	for _, x := range small() {
		c := made(t, field.New(), x)
		for seed := range 40 {
			to := seed % x.n
			for most := 0; x.d+2*most < x.n; most++ {
				nodes := besides(shuffled(seed, x.n), to)
				nodes = nodes[:len(nodes)-seed%(x.n-x.d-2*most)]
				helps := picked(x.helps(to, x.shares(mixed(seed, x.b()))), nodes)
				for i, b := range mixed(seed+1, len(helps)) {
					if int(b)%4 <= seed%5 {
						helps[i].Data[0] = mixed(i, seed+1)[seed]
					}
				}
				if share, wrong, ok := x.repaired(helps, most); ok {
					told++
					repairs(t, c, to, helps, most, share, wrong)
				} else {
					lost++
					repairsNot(t, c, to, helps, most, api.ErrLost)
				}
			}
		}
	}
	if lost < 200 || told < 200 {
		t.Errorf("%d were lost, %d told", lost, told)
	}
}

// P10.5: just enough helpers send bytes of no message; they are the values of one polynomial all the same.
func TestRepairOfNoMessage(t *testing.T) {
	for _, x := range small() {
		c := made(t, nil, x)
		want := mixed(x.n, x.d)
		for to := range x.n {
			var helps []api.Symbols
			for _, from := range besides(shuffled(to, x.n), to) {
				helps = append(helps, symbol(from, sumOf(want, x.psi(from))))
			}
			repairs(t, c, to, helps[:x.d], 0, want, nil)
			repairs(t, c, to, helps, 0, want, nil)
			helps[0].Data[0] ^= 3
			if x.d+1 < x.n {
				repairsNot(t, c, to, helps, 0, api.ErrLost)
			}
			if x.d+2 < x.n {
				repairs(t, c, to, helps, 1, want, []int{helps[0].Node})
			}
		}
	}
}

// tries are numbers t: small ones, and huge ones, some of which are small if they are doubled beyond an int.
func tries(n, k int) []int {
	return []int{0, 1, 2, n, 255, 256, 1 << 31, 1 << 32, 1 << 62, 1<<62 + 1, math.MaxInt / 2, math.MaxInt/2 + 1, math.MaxInt, math.MaxInt - k, (math.MaxInt - k) / 2, (math.MaxInt-k)/2 + 1}
}

// below are numbers t below 0.
func below(k int) []int {
	return []int{-1, -2, -k, -256, math.MinInt, math.MinInt + 1, -1 << 62, -1<<62 - 1}
}

// P10.5: exactly D plus twice t helpers, one fewer, and none; and a huge t.
func TestRepairFew(t *testing.T) {
	for _, x := range append(small(), large()...) {
		c := made(t, nil, x)
		shares, _ := c.Encode(mixed(x.n, x.b()))
		helps := picked(x.helps(1, shares), besides(shuffled(2, x.n), 1))
		for _, most := range tries(x.n, x.d) {
			enough := math.MaxInt
			if most < 1000 {
				enough = x.d + 2*most
			}
			for _, count := range []int{0, 1, x.k, x.d - 1, x.d, enough - 2, enough - 1, x.n - 1} {
				if count >= 0 && count < enough && count < x.n {
					repairsNot(t, c, 1, helps[:count], most, api.ErrFew)
				}
			}
			if enough < x.n {
				repairs(t, c, 1, helps[:enough], most, shares[1], nil)
			}
			repairsNot(t, c, 1, nil, most, api.ErrFew)
			repairsNot(t, c, 1, []api.Symbols{}, most, api.ErrFew)
		}
	}
}

// wrongSymbols are changes of symbols, each with bytes of that size, after which they are not valid any more.
func wrongSymbols(n, size int) []func(symbols []api.Symbols) []api.Symbols {
	var out []func([]api.Symbols) []api.Symbols
	for _, node := range outside(n) {
		out = append(out, func(l []api.Symbols) []api.Symbols { l[0].Node = node; return l },
			func(l []api.Symbols) []api.Symbols { l[len(l)-1].Node = node; return l })
	}
	for _, bytes := range []int{0, size - 1, size + 1, size + 256} {
		out = append(out, func(l []api.Symbols) []api.Symbols { l[0].Data = make([]byte, bytes); return l },
			func(l []api.Symbols) []api.Symbols { l[len(l)-1].Data = make([]byte, bytes); return l })
	}
	return append(out,
		func(l []api.Symbols) []api.Symbols { return append(l, l[0]) },
		func(l []api.Symbols) []api.Symbols { return append(l, l[len(l)-1]) },
		func(l []api.Symbols) []api.Symbols { return append(l, symbol(l[0].Node, mixed(1, size)...)) },
		func(l []api.Symbols) []api.Symbols { return slices.Repeat(l, 300) },
		func(l []api.Symbols) []api.Symbols { l[0].Data = nil; return l })
}

// P10.5: wrong arguments, also where another error would hold.
func TestRepairWrongArguments(t *testing.T) {
	for _, x := range append(small(), large()...) {
		c := made(t, nil, x)
		shares, _ := c.Encode(mixed(x.n, x.b()))
		all := x.helps(1, shares)
		for _, count := range []int{1, x.d, x.n - 1} {
			nodes := besides(shuffled(count, x.n), 1)[:count]
			for _, most := range []int{0, 1, math.MaxInt} {
				for _, change := range wrongSymbols(x.n, 1) {
					repairsNot(t, c, 1, change(picked(all, nodes)), most, api.ErrArg)
				}
				repairsNot(t, c, nodes[0], picked(all, nodes), most, api.ErrArg)
				repairsNot(t, c, nodes[count-1], picked(all, nodes), most, api.ErrArg)
				for _, to := range outside(x.n) {
					repairsNot(t, c, to, picked(all, nodes), most, api.ErrArg)
					repairsNot(t, c, to, nil, most, api.ErrArg)
				}
			}
			for _, most := range below(x.d) {
				repairsNot(t, c, 1, picked(all, nodes), most, api.ErrArg)
				repairsNot(t, c, 1, nil, most, api.ErrArg)
			}
		}
	}
}
