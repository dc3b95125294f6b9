package codec_test

import (
	"bytes"
	"slices"
	"testing"

	"starfish/api"
	"starfish/codec"
)

// decodes reports a result of Decode that is not this message, and these nodes.
func decodes(t *testing.T, x *codec.Codec, shares []api.Symbols, msg []byte, nodes []int) {
	t.Helper()
	got, wrong, e := x.Decode(shares)
	if e != api.OK || !bytes.Equal(got, msg) || !slices.Equal(wrong, nodes) {
		t.Errorf("%v: Decode of %v: %v, %v, %d, want %v, %v", x.Config(), shares, got, wrong, e, msg, nodes)
	}
}

// decodesNot reports a result of Decode that is not this error alone.
func decodesNot(t *testing.T, x *codec.Codec, shares []api.Symbols, want api.Errno) {
	t.Helper()
	if msg, wrong, e := x.Decode(shares); e != want || len(msg) != 0 || len(wrong) != 0 {
		t.Errorf("%v: Decode of %v: %v, %v, %d, want the error %d", x.Config(), shares, msg, wrong, e, want)
	}
}

// P14.4, P14.9: each choice of wrong shares up to T, in several ways, of all shares, and of just enough, in any order.
func TestDecode(t *testing.T) {
	for _, c := range small() {
		x, m := made(t, c), modelOf(t, c)
		msg := mixed(c.N, x.Shape().B)
		shares := m.shares(msg)
		for seed, nodes := range orders(c.K, c.N) {
			if seed%2 == 1 {
				nodes = nodes[:m.enough()]
			}
			told := picked(shares, nodes)
			for count := range c.T + 1 {
				for i, at := range some(choices(len(nodes), count)) {
					decodes(t, x, changed(told, at, i+seed), msg, nodesAt(told, at))
				}
			}
		}
	}
}

// P14.4, P14.9: any nodes that are enough, of which as many are wrong as may be.
func TestDecodeAnyNodes(t *testing.T) {
	for _, c := range small() {
		x, m := made(t, c), modelOf(t, c)
		for i, nodes := range some(choices(c.N, m.enough())) {
			msg := mixed(i, x.Shape().B)
			told := picked(m.shares(msg), nodes)
			at := shuffled(i, len(nodes))[:c.T]
			decodes(t, x, changed(told, at, i), msg, nodesAt(told, at))
		}
	}
}

// P14.4: messages of all kinds.
func TestDecodeMessages(t *testing.T) {
	for _, c := range all() {
		x, m := made(t, c), modelOf(t, c)
		for i, msg := range messages(x.Shape().B) {
			told := picked(m.shares(msg), shuffled(i, c.N))
			decodes(t, x, told[:m.enough()], msg, nil)
			if c.T > 0 && c.N < 100 {
				at := []int{i % m.enough()}
				decodes(t, x, changed(told[:m.enough()], at, i), msg, nodesAt(told, at))
				decodes(t, x, changed(told, at, i+1), msg, nodesAt(told, at))
			}
		}
	}
}

// P14.4: codes with many nodes, with as many wrong shares as may be, and one more.
func TestDecodeLarge(t *testing.T) {
	for i, c := range large() {
		x, m := made(t, c), modelOf(t, c)
		msg := mixed(i, x.Shape().B)
		told := picked(m.shares(msg), shuffled(i, c.N))
		at := shuffled(i, m.enough())[:c.T]
		decodes(t, x, changed(told[:m.enough()], at, i), msg, nodesAt(told, at))
		more := shuffled(i, c.N)[:c.T+1]
		if m.enough()+2 <= c.N { // so that no other message is as near
			decodesNot(t, x, changed(told, more, i), api.ErrLost)
		}
	}
}

// P14.4: whatever the bytes, and however many are wrong, compared with all choices of wrong ones.
func TestDecodeAnything(t *testing.T) {
	counts := map[api.Errno]int{}
	for _, c := range small() {
		x, m := made(t, c), modelOf(t, c)
		for seed := range 40 {
			nodes := shuffled(seed, c.N)[:c.N-seed%(c.N-m.enough()+1)]
			told := picked(m.shares(mixed(seed, x.Shape().B)), nodes)
			count := min(c.T+seed%3, len(nodes))
			told = changed(told, shuffled(seed+1, len(nodes))[:count], seed/3)
			msg, wrong, e := m.nearest(told)
			counts[e]++
			if e == api.OK {
				decodes(t, x, told, msg, wrong)
			} else {
				decodesNot(t, x, told, e)
			}
		}
	}
	if counts[api.OK] < 1000 || counts[api.ErrLost] < 1000 {
		t.Errorf("only so many by error: %v", counts)
	}
}

// P14.4: one fewer than Tells plus twice T, and fewer, and none; also if some are wrong.
func TestDecodeFew(t *testing.T) {
	for i, c := range all() {
		x, m := made(t, c), modelOf(t, c)
		told := picked(m.shares(mixed(i, x.Shape().B)), shuffled(i, c.N))
		for _, count := range []int{0, 1, c.K - 1, x.Shape().Tells - 1, x.Shape().Tells, m.enough() - 2, m.enough() - 1} {
			if count >= 0 && count < m.enough() {
				decodesNot(t, x, told[:count], api.ErrFew)
				decodesNot(t, x, changed(told[:count], upTo(count), i), api.ErrFew)
			}
		}
		decodesNot(t, x, nil, api.ErrFew)
		decodesNot(t, x, []api.Symbols{}, api.ErrFew)
	}
}

// wrongSymbols are changes of symbols, each with so many bytes, after which they are not valid any more.
func wrongSymbols(n, size int) []func(symbols []api.Symbols) []api.Symbols {
	var out []func([]api.Symbols) []api.Symbols
	for _, node := range outside(n) {
		out = append(out, func(l []api.Symbols) []api.Symbols { l[0].Node = node; return l },
			func(l []api.Symbols) []api.Symbols { l[len(l)-1].Node = node; return l },
			func(l []api.Symbols) []api.Symbols { return append(l, symbol(node, make([]byte, size)...)) })
	}
	for _, other := range []int{0, size - 1, size + 1, 2 * size, size + 256} {
		if other != size {
			out = append(out, func(l []api.Symbols) []api.Symbols { l[0].Data = make([]byte, other); return l },
				func(l []api.Symbols) []api.Symbols { l[len(l)-1].Data = make([]byte, other); return l })
		}
	}
	return append(out,
		func(l []api.Symbols) []api.Symbols { return append(l, l[0]) },
		func(l []api.Symbols) []api.Symbols { return append(l, l[len(l)-1]) },
		func(l []api.Symbols) []api.Symbols { return append(l, symbol(l[0].Node, make([]byte, size)...)) },
		func(l []api.Symbols) []api.Symbols { l[0].Node = l[len(l)-1].Node; return append(l, l[0]) },
		func(l []api.Symbols) []api.Symbols { return slices.Repeat(l, 300) },
		func(l []api.Symbols) []api.Symbols { l[0].Data = nil; return l })
}

// P14.4: shares that are not valid, also where there are too few.
func TestDecodeWrongArguments(t *testing.T) {
	for i, c := range all() {
		x, m := made(t, c), modelOf(t, c)
		shares := m.shares(mixed(i, x.Shape().B))
		for _, nodes := range [][]int{shuffled(i, c.N), shuffled(i, c.N)[:m.enough()], {c.N - 1}} {
			for _, change := range wrongSymbols(c.N, x.Shape().Alpha) {
				decodesNot(t, x, change(picked(shares, nodes)), api.ErrArg)
			}
		}
	}
}
