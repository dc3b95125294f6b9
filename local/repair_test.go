package local_test

import (
	"bytes"
	"math"
	"slices"
	"testing"

	"starfish/api"
	"starfish/field"
	"starfish/local"
)

// nears reports a result of Near that is not this share.
func nears(t *testing.T, c *local.Code, to int, helps []api.Symbols, share byte) {
	t.Helper()
	if got, e := c.Near(to, helps); e != api.OK || got != share {
		t.Errorf("Near of %d from %v: %d, %d, want %d", to, helps, got, e, share)
	}
}

// nearsNot reports a result of Near that is not this error alone.
func nearsNot(t *testing.T, c *local.Code, to int, helps []api.Symbols, want api.Errno) {
	t.Helper()
	if share, e := c.Near(to, helps); e != want || share != 0 {
		t.Errorf("Near of %d from %v: %d, %d, want the error %d", to, helps, share, e, want)
	}
}

// repairs reports a result of Repair that is not this share.
func repairs(t *testing.T, c *local.Code, to int, helps []api.Symbols, most int, share byte) {
	t.Helper()
	if got, e := c.Repair(to, helps, most); e != api.OK || got != share {
		t.Errorf("Repair of %d from %v, %d: %d, %d, want %d", to, helps, most, got, e, share)
	}
}

// repairsNot reports a result of Repair that is not this error alone.
func repairsNot(t *testing.T, c *local.Code, to int, helps []api.Symbols, most int, want api.Errno) {
	t.Helper()
	if share, e := c.Repair(to, helps, most); e != want || share != 0 {
		t.Errorf("Repair of %d from %v, %d: %d, %d, want the error %d", to, helps, most, share, e, want)
	}
}

// some are nodes to repair: all of a small code, and those at the ends of groups of a large one.
func (x shape) some() []int {
	if x.n <= 34 {
		return upTo(x.n)
	}
	return []int{0, 1, x.r, x.n / 2, x.n - x.r - 1, x.n - 1}
}

// P12.4, P12.8: the share of each node, by its group alone, and with all other nodes, in any order.
func TestNear(t *testing.T) {
	for _, x := range all() {
		c := made(t, field.New(), x)
		for i, msg := range messages(x.k) {
			if x.r > 100 && i < 4 {
				continue
			}
			shares := x.shares(msg)
			for _, to := range x.some() {
				for _, nodes := range orders(to+i, x.n) {
					nears(t, c, to, picked(shares, besides(nodes, to)), shares[to])
					near := slices.DeleteFunc(slices.Clone(nodes), func(node int) bool { return !slices.Contains(x.others(to), node) })
					nears(t, c, to, picked(shares, near), shares[to])
				}
			}
		}
	}
}

// P12.4: whatever the group has, also what no message gives, and whatever other groups have.
func TestNearAnything(t *testing.T) {
	for _, x := range all() {
		if x.r > 100 {
			continue
		}
		c := made(t, nil, x)
		for _, to := range x.some() {
			for seed, nodes := range orders(to, x.n) {
				has := mixed(to*4+seed, x.n)
				want := x.near(to, has)
				nears(t, c, to, picked(has, besides(nodes, to)), want)
				for node := range has {
					if node/(x.r+1) != to/(x.r+1) {
						has[node] += byte(node%255) + 1
					}
				}
				nears(t, c, to, picked(has, besides(nodes, to)), want)
			}
		}
	}
}

// P12.4: the polynomials of R coefficients, by hand: for R 2, the sum of the others times powers of h, since 1 + h + h^2 is 0.
func TestNearByHand(t *testing.T) {
	c := made(t, nil, shape{9, 4, 2})
	h := raised(2, 85)
	for seed := range 256 {
		a, b := byte(seed), mixed(seed, 1)[0]
		for first := 0; first < 9; first += 3 {
			for at := range 3 {
				next, last := first+(at+1)%3, first+(at+2)%3
				// The line a + (a + b) / (h + h^2) (x - h), at 1; h + h^2 is 1.
				want := a ^ products[a^b][1^h]
				nears(t, c, first+at, []api.Symbols{symbol(last, b), symbol(next, a)}, want)
			}
		}
	}
}

// P12.4: fewer than all others of the group, whichever are there, also if all other groups are.
func TestNearFew(t *testing.T) {
	for _, x := range all() {
		c := made(t, nil, x)
		shares := x.shares(mixed(x.n, x.k))
		for _, to := range x.some() {
			for _, out := range x.others(to) {
				nearsNot(t, c, to, picked(shares, besides(upTo(x.n), to, out)), api.ErrFew)
				nearsNot(t, c, to, picked(shares, besides(x.others(to), out)), api.ErrFew)
				if x.r < 20 {
					nearsNot(t, c, to, picked(shares, besides(shuffled(out, x.n), to, out)), api.ErrFew)
					nearsNot(t, c, to, picked(shares, []int{out}), api.ErrFew)
				}
			}
			nearsNot(t, c, to, picked(shares, besides(upTo(x.n), append(x.others(to), to)...)), api.ErrFew)
			nearsNot(t, c, to, nil, api.ErrFew)
			nearsNot(t, c, to, []api.Symbols{}, api.ErrFew)
		}
	}
}

// wrongSymbols are changes of symbols, each with one byte, after which they are not valid any more.
func wrongSymbols(n int) []func(symbols []api.Symbols) []api.Symbols {
	var out []func([]api.Symbols) []api.Symbols
	for _, node := range outside(n) {
		out = append(out, func(l []api.Symbols) []api.Symbols { l[0].Node = node; return l },
			func(l []api.Symbols) []api.Symbols { l[len(l)-1].Node = node; return l },
			func(l []api.Symbols) []api.Symbols { return append(l, symbol(node, 1)) })
	}
	for _, size := range []int{0, 2, 257} {
		out = append(out, func(l []api.Symbols) []api.Symbols { l[0].Data = make([]byte, size); return l },
			func(l []api.Symbols) []api.Symbols { l[len(l)-1].Data = bytes.Repeat(l[0].Data, size); return l })
	}
	return append(out,
		func(l []api.Symbols) []api.Symbols { return append(l, l[0]) },
		func(l []api.Symbols) []api.Symbols { return append(l, l[len(l)-1]) },
		func(l []api.Symbols) []api.Symbols { return append(l, symbol(l[0].Node, l[0].Data[0]+1)) },
		func(l []api.Symbols) []api.Symbols { l[0].Node = l[len(l)-1].Node; return append(l, l[0]) },
		func(l []api.Symbols) []api.Symbols { return slices.Repeat(l, 300) },
		func(l []api.Symbols) []api.Symbols { l[0].Data = nil; return l })
}

// isWrong reports results of Near and Repair other than ErrArg.
func isWrong(t *testing.T, c *local.Code, to int, helps []api.Symbols) {
	t.Helper()
	nearsNot(t, c, to, helps, api.ErrArg)
	for _, most := range []int{0, 1, -1, math.MaxInt} {
		repairsNot(t, c, to, helps, most, api.ErrArg)
	}
}

// P12.4, P12.6: wrong arguments, also where another error would hold; those of other groups are not ignored there.
func TestRepairWrongArguments(t *testing.T) {
	for _, x := range all() {
		c := made(t, nil, x)
		shares := x.shares(mixed(x.n, x.k))
		for _, to := range []int{0, 1, x.n - 1} {
			for _, nodes := range [][]int{besides(shuffled(to, x.n), to), x.others(to), besides(upTo(x.n), to)[:1], slices.Concat(x.others(to), besides(upTo(x.n), append(x.others(to), to)...))} {
				for _, change := range wrongSymbols(x.n) {
					isWrong(t, c, to, change(picked(shares, nodes)))
				}
				isWrong(t, c, to, picked(shares, append(slices.Clone(nodes), to)))
				isWrong(t, c, to, picked(shares, append([]int{to}, nodes...)))
				isWrong(t, c, to, picked(shares, append([]int{to}, nodes[1:]...)))
				isWrong(t, c, to, picked(shares, append(nodes[1:], to)))
				for _, no := range outside(x.n) {
					isWrong(t, c, no, picked(shares, nodes))
				}
			}
			isWrong(t, c, to, picked(shares, []int{to}))
		}
		for _, no := range outside(x.n) {
			isWrong(t, c, no, nil)
		}
	}
}

// P12.6: t below 0, also where there are no helps.
func TestRepairBelow(t *testing.T) {
	for _, x := range all() {
		c := made(t, nil, x)
		shares := x.shares(mixed(x.n, x.k))
		for _, most := range below(x.tells()) {
			repairsNot(t, c, 0, picked(shares, upTo(x.n)[1:]), most, api.ErrArg)
			repairsNot(t, c, 0, picked(shares, x.others(0)), most, api.ErrArg)
			repairsNot(t, c, 0, nil, most, api.ErrArg)
		}
	}
}

// mostBut is the greatest t for which there can be enough helps of all but one node.
func (x shape) mostBut() int { return (x.n - 1 - x.tells()) / 2 }

// P12.6, P12.8: the share of each node, with each choice of wrong helps up to t, from all others and from just enough, in any order.
func TestRepair(t *testing.T) {
	for _, x := range small() {
		c := made(t, field.New(), x)
		shares := x.shares(mixed(x.n, x.k))
		for to := range x.n {
			for most := range x.mostBut() + 1 {
				for seed, nodes := range orders(to, x.n) {
					nodes = besides(nodes, to)
					if seed%2 == 1 {
						nodes = nodes[:x.tells()+2*most]
					}
					helps := picked(shares, nodes)
					for count := range most + 1 {
						for i, at := range choices(len(nodes), count) {
							repairs(t, c, to, x.changed(helps, at, i+seed), most, shares[to])
						}
					}
				}
			}
		}
	}
}

// P12.6, P12.8: any Tells others repair a node, also those of other groups alone.
func TestRepairAnyNodes(t *testing.T) {
	for _, x := range small() {
		c := made(t, nil, x)
		shares := x.shares(mixed(x.r, x.k))
		for to := range x.n {
			for _, nodes := range choices(x.n, x.tells()) {
				if !slices.Contains(nodes, to) {
					repairs(t, c, to, picked(shares, nodes), 0, shares[to])
				}
			}
		}
	}
}

// P12.6, P12.8: codes at the limits, with as many wrong helps as can be.
func TestRepairLarge(t *testing.T) {
	for _, x := range large() {
		c := made(t, field.New(), x)
		shares := x.shares(mixed(x.n, x.k))
		for i, to := range x.some()[:6] {
			most := x.mostBut() * i / 5
			nodes := besides(shuffled(to, x.n), to)
			if i%2 == 1 {
				nodes = nodes[:x.tells()+2*most]
			}
			at := shuffled(to, len(nodes))[:most]
			helps := x.changed(picked(shares, nodes), at, to+i)
			repairs(t, c, to, helps, most, shares[to])
			if most > 0 {
				repairsNot(t, c, to, helps, most-1, api.ErrLost)
			}
		}
	}
}

// P12.6: whatever the bytes, compared with all choices of wrong ones; the errors of Decode.
func TestRepairAnything(t *testing.T) {
	lost, told := 0, 0
	for _, x := range append(small(), shape{12, 4, 2}, shape{15, 10, 2}, shape{15, 8, 4}) {
		c := made(t, nil, x)
		for seed := range 60 {
			to := seed % x.n
			for most := range min(x.mostBut(), 3) + 1 {
				nodes := besides(shuffled(seed, x.n), to)
				nodes = nodes[:len(nodes)-seed%(x.n-x.tells()-2*most)]
				count := min(most+seed%2, len(nodes))
				helps := x.changed(picked(x.shares(mixed(seed, x.k)), nodes), shuffled(seed+1, len(nodes))[:count], seed)
				if msg, _, ok := x.nearest(helps, most); ok {
					told++
					repairs(t, c, to, helps, most, x.shares(msg)[to])
				} else {
					lost++
					repairsNot(t, c, to, helps, most, api.ErrLost)
				}
			}
		}
	}
	if lost < 200 || told < 200 {
		t.Errorf("%d were lost, %d told", lost, told)
	}
}

// P12.6: the values of a polynomial that is no message's repair nothing.
func TestRepairNoMessage(t *testing.T) {
	for _, x := range []shape{{6, 4, 2}, {9, 4, 2}, {12, 4, 2}, {15, 8, 2}, {10, 8, 4}, {15, 8, 4}, {45, 28, 14}} {
		c := made(t, nil, x)
		for power := x.r; power < x.tells(); power += x.r + 1 {
			polynomial := mixed(power, x.tells())
			for i := range polynomial {
				if i%(x.r+1) == x.r {
					polynomial[i] = 0
				}
			}
			polynomial[power] = 1
			all := x.values(polynomial)
			for to := range x.n {
				repairsNot(t, c, to, picked(all, besides(shuffled(to, x.n), to)), 0, api.ErrLost)
				repairsNot(t, c, to, picked(all, besides(shuffled(to, x.n), to)[:x.tells()]), 0, api.ErrLost)
			}
		}
	}
}

// P12.6: exactly Tells plus twice t helps, one fewer, and none, also if the whole group is there; and a huge t.
func TestRepairFew(t *testing.T) {
	for _, x := range all() {
		c := made(t, nil, x)
		shares := x.shares(mixed(x.n, x.k))
		helps := picked(shares, besides(shuffled(2, x.n), 1))
		for _, most := range tries(x.n, x.tells()) {
			enough := math.MaxInt
			if most < 1000 {
				enough = x.tells() + 2*most
			}
			for _, count := range []int{0, 1, x.k - 1, x.k, x.tells() - 1, enough - 2, enough - 1, x.n - 1} {
				if count >= 0 && count < enough && count < x.n {
					repairsNot(t, c, 1, helps[:count], most, api.ErrFew)
				}
			}
			if enough < x.n {
				repairs(t, c, 1, helps[:enough], most, shares[1])
			}
			if x.r < enough {
				repairsNot(t, c, 1, picked(shares, x.others(1)), most, api.ErrFew)
			}
			repairsNot(t, c, 1, nil, most, api.ErrFew)
			repairsNot(t, c, 1, []api.Symbols{}, most, api.ErrFew)
		}
	}
}
