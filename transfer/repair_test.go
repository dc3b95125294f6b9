package transfer_test

import (
	"bytes"
	"slices"
	"testing"

	"starfish/api"
	"starfish/field"
	"starfish/transfer"
)

// repairs reports a result of Repair that is not this share.
func repairs(t *testing.T, c *transfer.Code, to int, helps []api.Symbols, share []byte) {
	t.Helper()
	if got, e := c.Repair(to, helps); e != api.OK || !bytes.Equal(got, share) {
		t.Errorf("Repair of %d from %v: %v, %d, want %v", to, helps, got, e, share)
	}
}

// repairsNot reports a result of Repair that is not this error alone.
func repairsNot(t *testing.T, c *transfer.Code, to int, helps []api.Symbols, want api.Errno) {
	t.Helper()
	if share, e := c.Repair(to, helps); e != want || len(share) != 0 {
		t.Errorf("Repair of %d from %v: %v, %d, want the error %d", to, helps, share, e, want)
	}
}

// P11.5, P11.8: the share of each node, in any order of helpers; what they send is that of Help.
func TestRepair(t *testing.T) {
	for _, x := range all() {
		c := made(t, field.New(), x)
		for i, msg := range messages(x.b()) {
			shares, _ := c.Encode(msg)
			for to := range x.n {
				sent := make([][]byte, x.n)
				for from := range x.n {
					b, _ := c.Help(from, to, shares[from])
					sent[from] = []byte{b}
				}
				for _, nodes := range orders(to+i, x.n) {
					repairs(t, c, to, picked(sent, besides(nodes, to)), shares[to])
				}
			}
		}
	}
}

// P11.5: whatever the bytes, also those of no message: they are copied, ascending by the nodes.
func TestRepairAnything(t *testing.T) {
	for _, x := range all() {
		c := made(t, nil, x)
		for to := range x.n {
			for seed, nodes := range orders(to, x.n) {
				sent := make([][]byte, x.n)
				for from, b := range mixed(to*4+seed, x.n) {
					sent[from] = []byte{b}
				}
				want := slices.Concat(slices.Delete(slices.Clone(sent), to, to+1)...)
				repairs(t, c, to, picked(sent, besides(nodes, to)), want)
			}
		}
	}
}

// P11.5: fewer than all others, whichever are there.
func TestRepairFew(t *testing.T) {
	for _, x := range all() {
		c := made(t, nil, x)
		shares, _ := c.Encode(mixed(x.n, x.b()))
		for to := range x.n {
			helps := picked(x.helps(to, shares), besides(shuffled(to, x.n), to))
			for count := range x.n - 1 {
				repairsNot(t, c, to, helps[:count], api.ErrFew)
				repairsNot(t, c, to, slices.Delete(slices.Clone(helps), count, count+1), api.ErrFew)
			}
			repairsNot(t, c, to, nil, api.ErrFew)
			repairsNot(t, c, to, []api.Symbols{}, api.ErrFew)
		}
	}
}

// wrongSymbols are changes of symbols, each with bytes of that size, after which they are not valid any more.
func wrongSymbols(n, size int) []func(symbols []api.Symbols) []api.Symbols {
	var out []func([]api.Symbols) []api.Symbols
	for _, node := range outside(n) {
		out = append(out, func(l []api.Symbols) []api.Symbols { l[0].Node = node; return l },
			func(l []api.Symbols) []api.Symbols { l[len(l)-1].Node = node; return l })
	}
	for _, bytes := range []int{0, size - 1, size + 1, size + 256} {
		out = append(out, func(l []api.Symbols) []api.Symbols { l[0].Data = make([]byte, bytes); return l },
			func(l []api.Symbols) []api.Symbols { l[len(l)-1].Data = make([]byte, bytes); return l })
	}
	return append(out,
		func(l []api.Symbols) []api.Symbols { return append(l, l[0]) },
		func(l []api.Symbols) []api.Symbols { return append(l, l[len(l)-1]) },
		func(l []api.Symbols) []api.Symbols { return append(l, symbol(l[0].Node, mixed(1, size)...)) },
		func(l []api.Symbols) []api.Symbols { l[0].Node = l[len(l)-1].Node; return append(l, l[0]) },
		func(l []api.Symbols) []api.Symbols { return slices.Repeat(l, 300) },
		func(l []api.Symbols) []api.Symbols { l[0].Data = nil; return l })
}

// P11.5: wrong arguments, also where another error would hold.
func TestRepairWrongArguments(t *testing.T) {
	for _, x := range all() {
		c := made(t, nil, x)
		shares, _ := c.Encode(mixed(x.n, x.b()))
		for _, self := range []int{0, 1, x.n - 1} {
			sent := x.helps(self, shares)
			sent[self] = []byte{7}
			for _, count := range []int{1, x.n - 1} {
				nodes := besides(shuffled(count, x.n), self)[:count]
				for _, change := range wrongSymbols(x.n, 1) {
					repairsNot(t, c, self, change(picked(sent, nodes)), api.ErrArg)
				}
				repairsNot(t, c, self, picked(sent, append(nodes, self)), api.ErrArg)
				repairsNot(t, c, self, picked(sent, append([]int{self}, nodes[1:]...)), api.ErrArg)
				repairsNot(t, c, self, picked(sent, append(nodes[1:], self)), api.ErrArg)
				for _, to := range outside(x.n) {
					repairsNot(t, c, to, picked(sent, nodes), api.ErrArg)
					repairsNot(t, c, to, nil, api.ErrArg)
				}
			}
		}
	}
}
