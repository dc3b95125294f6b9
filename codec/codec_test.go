package codec_test

import (
	"bytes"
	"math"
	"slices"
	"sync"
	"testing"

	"starfish/api"
	"starfish/codec"
	"starfish/config"
)

// Examples.
func TestExamples(t *testing.T) {
	reed := made(t, api.Config{Code: api.Reed, N: 4, K: 2, W: 3})
	encodes(t, reed, []byte{7, 1}, column([]byte{6, 5, 3, 15}))
	sends(t, reed, 1, 0, []byte{5}, []byte{5})
	asks(t, reed, 0, []int{3, 1, 3, 0}, []int{1, 3}, true)
	msr := made(t, api.Config{Code: api.MSR, N: 5, K: 2, D: 2, W: 3})
	encodes(t, msr, []byte{5, 6}, column([]byte{5, 6, 0, 12, 20}))
	asks(t, msr, 4, []int{0}, nil, false)
	local := made(t, api.Config{Code: api.Local, N: 6, K: 2, R: 2, W: 4})
	asks(t, local, 0, []int{1, 2, 4}, []int{1, 2}, true)
	asks(t, local, 0, []int{1, 4, 5}, []int{1, 4}, true)
}

// The examples of the chapters of the kinds, by codecs of the same codes.
func TestExamplesOfKinds(t *testing.T) {
	reed := made(t, api.Config{Code: api.Reed, N: 4, K: 2, W: 3})
	decodes(t, reed, []api.Symbols{symbol(2, 3), symbol(0, 6)}, []byte{7, 1}, nil)
	decodesNot(t, reed, []api.Symbols{symbol(0, 6)}, api.ErrFew)
	decodesNot(t, reed, []api.Symbols{symbol(0, 6), symbol(1, 5), symbol(2, 2)}, api.ErrLost)
	liar := made(t, api.Config{Code: api.Reed, N: 5, K: 2, T: 1, W: 4})
	told := []api.Symbols{symbol(0, 6), symbol(1, 9), symbol(2, 3), symbol(3, 15)}
	decodes(t, liar, told, []byte{7, 1}, []int{1})
	repairs(t, liar, 4, told, []byte{23}, []int{1})
	msr := made(t, api.Config{Code: api.MSR, N: 5, K: 2, D: 2, W: 3})
	sends(t, msr, 1, 0, []byte{6}, []byte{6})
	repairs(t, msr, 0, []api.Symbols{symbol(1, 6), symbol(2, 0)}, []byte{5}, nil)
	decodes(t, msr, []api.Symbols{symbol(3, 12), symbol(4, 20)}, []byte{5, 6}, nil)
	mbr := made(t, api.Config{Code: api.MBR, N: 4, K: 2, D: 2, W: 3})
	encodes(t, mbr, []byte{1, 2, 3}, [][]byte{{3, 1}, {5, 4}, {9, 14}, {17, 26}})
	sends(t, mbr, 1, 0, []byte{5, 4}, []byte{1})
	repairs(t, mbr, 0, []api.Symbols{symbol(1, 1), symbol(2, 7)}, []byte{3, 1}, nil)
	decodes(t, mbr, []api.Symbols{symbol(1, 5, 4), symbol(3, 17, 26)}, []byte{1, 2, 3}, nil)
	transfer := made(t, api.Config{Code: api.Transfer, N: 3, K: 2, W: 2})
	encodes(t, transfer, []byte{0, 1, 0}, [][]byte{{1, 2}, {1, 4}, {2, 4}})
	sends(t, transfer, 2, 0, []byte{2, 4}, []byte{2})
	repairs(t, transfer, 0, []api.Symbols{symbol(2, 2), symbol(1, 1)}, []byte{1, 2}, nil)
	decodes(t, transfer, []api.Symbols{symbol(1, 1, 4), symbol(2, 2, 4)}, []byte{0, 1, 0}, nil)
	decodesNot(t, transfer, []api.Symbols{symbol(1, 1, 4), symbol(2, 2, 5)}, api.ErrLost)
	local := made(t, api.Config{Code: api.Local, N: 6, K: 2, R: 2, W: 4})
	encodes(t, local, []byte{5, 0}, column(bytes.Repeat([]byte{5}, 6)))
	repairs(t, local, 0, []api.Symbols{symbol(1, 5), symbol(2, 5)}, []byte{5}, nil)
	repairs(t, local, 0, []api.Symbols{symbol(1, 5), symbol(4, 5)}, []byte{5}, nil)
	decodes(t, local, []api.Symbols{symbol(3, 5), symbol(5, 5)}, []byte{5, 0}, nil)
}

// isMade reports a result of New, Config or Shape that is not that of a code, and returns whether it is valid.
func isMade(t *testing.T, c api.Config) bool {
	t.Helper()
	shape, want := config.Check(c)
	x, e := codec.New(c)
	switch {
	case e != want || (x == nil) != (want != api.OK):
		t.Errorf("New of %v: %v, %d, want the error %d", c, x, e, want)
	case x != nil && (x.Config() != c || x.Shape() != shape):
		t.Errorf("New of %v: %v, %v", c, x.Config(), x.Shape())
	}
	return want == api.OK
}

// P14.1, P14.2: small numbers, and those around 0.
func TestNewSmall(t *testing.T) {
	count := 0
	for kind := range uint8(7) {
		for n := -1; n <= 7; n++ {
			for k := -1; k <= 5; k++ {
				for d := -1; d <= 5; d++ {
					for r := -1; r <= 3; r++ {
						for most := -1; most <= 2; most++ {
							for w := -1; w <= n+1; w++ {
								if isMade(t, api.Config{Code: kind, N: n, K: k, D: d, R: r, T: most, W: w}) {
									count++
								}
							}
						}
					}
				}
			}
		}
	}
	if count < 200 {
		t.Errorf("only %d were valid", count)
	}
}

// P14.1, P14.2: codes of all kinds, each number of which is replaced: by those next to it, and at limits, and by huge ones.
func TestNewReplaced(t *testing.T) {
	for _, c := range all() {
		if !isMade(t, c) {
			t.Errorf("%v is not valid", c)
		}
		for i := range 6 {
			for _, n := range []int{0, 1, 254, 255, 256, 257, 511, 65538, 1 << 32, 1<<32 + 2, math.MaxInt, math.MaxInt/2 + 2, math.MinInt, math.MinInt + 2} {
				isMade(t, with(c, i, n))
			}
			for _, by := range []int{-2, -1, 1, 2, 256, -256, 1 << 32} {
				was := []int{c.N, c.K, c.D, c.R, c.T, c.W}[i]
				isMade(t, with(c, i, was+by))
			}
		}
		for _, kind := range []uint8{0, 1, 2, 3, 4, 5, 6, 9, 255} {
			other := c
			other.Code = kind
			isMade(t, other)
		}
	}
	isMade(t, api.Config{})
}

// with is a code in which one number, from 0 for N to 5 for W, is replaced.
func with(c api.Config, at, n int) api.Config {
	*[]*int{&c.N, &c.K, &c.D, &c.R, &c.T, &c.W}[at] = n
	return c
}

// encodes reports a result of Encode that is not these shares.
func encodes(t *testing.T, x *codec.Codec, msg []byte, want [][]byte) {
	t.Helper()
	if shares, e := x.Encode(msg); e != api.OK || !slices.EqualFunc(shares, want, bytes.Equal) {
		t.Errorf("%v: Encode of %v: %v, %d, want %v", x.Config(), msg, shares, e, want)
	}
}

// P14.3: the shares of the definitions.
func TestEncode(t *testing.T) {
	for _, c := range all() {
		x, m := made(t, c), modelOf(t, c)
		for _, msg := range messages(x.Shape().B) {
			encodes(t, x, msg, m.shares(msg))
		}
	}
}

// P14.3: messages of another length.
func TestEncodeWrongLength(t *testing.T) {
	for _, c := range all() {
		x := made(t, c)
		b := x.Shape().B
		for _, size := range []int{0, 1, c.N, c.K, x.Shape().Alpha, b - 1, b + 1, 2 * b, b + 256, 70000} {
			if size == b {
				continue
			}
			if shares, e := x.Encode(make([]byte, size)); e != api.ErrArg || len(shares) != 0 {
				t.Errorf("%v: Encode of %d bytes: %v, %d", c, size, shares, e)
			}
		}
		if shares, e := x.Encode(nil); e != api.ErrArg || len(shares) != 0 {
			t.Errorf("%v: Encode of nothing: %v, %d", c, shares, e)
		}
	}
}

// P14.1: without a codec, whatever the arguments. The chapter does not speak of one that New did not make, but its calls must not panic.
func TestNoCodec(t *testing.T) {
	for _, x := range []*codec.Codec{nil, {}} {
		is := func(what string, e api.Errno, empty bool) {
			t.Helper()
			if x == nil && (e != api.ErrNil || !empty) {
				t.Errorf("%s: the error %d, no results: %v", what, e, empty)
			}
		}
		is("Config", api.ErrNil, x.Config() == api.Config{})
		is("Shape", api.ErrNil, x.Shape() == config.Shape{})
		lists := [][]api.Symbols{nil, {}, {symbol(0, 5), symbol(1, 6)}, {symbol(-1)}, {symbol(0)}}
		for _, l := range lists {
			msg, wrong, e := x.Decode(l)
			is("Decode", e, len(msg)+len(wrong) == 0)
		}
		nodes := []int{0, 1, -1, 255, math.MaxInt, math.MinInt}
		for _, b := range [][]byte{nil, {}, {5}, {5, 6}, {5, 6, 7}} {
			shares, e := x.Encode(b)
			is("Encode", e, len(shares) == 0)
			for _, from := range nodes {
				for _, to := range nodes {
					help, e := x.Help(from, to, b)
					is("Help", e, len(help) == 0)
				}
			}
		}
		for _, to := range nodes {
			for _, l := range lists {
				share, wrong, e := x.Repair(to, l)
				is("Repair", e, len(share)+len(wrong) == 0)
			}
			for _, have := range [][]int{nil, {}, {0}, {1, 2, 3}, nodes} {
				asked, ok := x.Helpers(to, have)
				is("Helpers", api.ErrNil, len(asked) == 0 && !ok)
			}
		}
	}
}

// spoil changes a list, and all that is after its length in its memory.
func spoil[E byte | int](list []E) {
	list = list[:cap(list)]
	for i := range list {
		list[i] ^= 0x5a
	}
}

// longer returns symbols with more after the length of the list, and of each one's bytes, in their memory.
func longer(symbols []api.Symbols) []api.Symbols {
	out := make([]api.Symbols, 0, len(symbols)+4)
	for _, s := range append(symbols, symbol(1, 7), symbol(0, 8), symbol(2, 9)) {
		out = append(out, symbol(s.Node, append(append(make([]byte, 0, len(s.Data)+9), s.Data...), 41, 42, 43, 44, 45)[:len(s.Data)]...))
	}
	return out[:len(symbols)]
}

// whole are all bytes in the memory of symbols, also those after lengths.
func whole(symbols []api.Symbols) (out []int) {
	for _, s := range symbols[:cap(symbols)] {
		out = append(out, s.Node, len(s.Data))
		for _, b := range s.Data[:cap(s.Data)] {
			out = append(out, int(b))
		}
	}
	return out
}

// P14.8: arguments are left as they were, with what is after their length in their memory.
func TestArgumentsStay(t *testing.T) {
	for i, c := range small() {
		x, m := made(t, c), modelOf(t, c)
		b := x.Shape().B
		msg := append(mixed(i, b), 1, 2, 3, 4, 5, 6, 7)
		kept := bytes.Clone(msg)
		x.Encode(msg[:b])
		x.Encode(msg)
		if !bytes.Equal(msg, kept) {
			t.Errorf("%v: a message was changed", c)
		}
		shares := m.shares(msg[:b])
		share := append(slices.Grow(bytes.Clone(shares[1]), 9), 1, 2, 3)
		kept = bytes.Clone(share)
		x.Help(1, 0, share[:x.Shape().Alpha])
		x.Help(1, 0, share)
		if !bytes.Equal(share, kept) {
			t.Errorf("%v: a share was changed", c)
		}
		have := append(slices.Clone(shuffled(i, c.N)), 0, 9, 2, -1, 1)
		was := slices.Clone(have)
		for to := -1; to <= c.N; to++ {
			x.Helpers(to, have[:c.N/2])
			x.Helpers(to, have[:c.N])
			x.Helpers(to, have)
		}
		if !slices.Equal(have, was) {
			t.Errorf("%v: nodes were changed: %v", c, have)
		}
		for count := range c.T + 2 {
			told := longer(changed(picked(shares, shuffled(i, c.N)), upTo(count), i))
			helps := longer(changed(m.helps(0, shares, besides(shuffled(i, c.N), 0)), upTo(count), i))
			one, two := whole(told), whole(helps)
			x.Decode(told)
			x.Decode(told[:count])
			x.Repair(0, helps)
			x.Repair(0, helps[:count])
			x.Repair(0, told)
			if !slices.Equal(one, whole(told)) || !slices.Equal(two, whole(helps)) {
				t.Errorf("%v: arguments were changed: %v, %v", c, told, helps)
			}
		}
	}
}

// P14.8: what the caller changes afterwards, in messages and shares, changes nothing else, and no later result.
func TestNothingShared(t *testing.T) {
	for i, c := range small() {
		x, m := made(t, c), modelOf(t, c)
		msg := mixed(i, x.Shape().B)
		want := m.shares(msg)
		given := bytes.Clone(msg)
		first, _ := x.Encode(given)
		second, _ := x.Encode(given)
		spoil(given)
		for node := range first {
			for after := node + 1; after < c.N; after++ {
				if !bytes.Equal(first[after], want[after]) {
					t.Errorf("%v: the shares of %d and one before share memory", c, after)
				}
			}
			spoil(first[node])
		}
		if !slices.EqualFunc(second, want, bytes.Equal) {
			t.Errorf("%v: shares share memory: %v", c, second)
		}
		encodes(t, x, msg, want)
		told := changed(picked(want, shuffled(i, c.N)), upTo(c.T), i)
		wrong := nodesAt(told, upTo(c.T))
		one, nodes, _ := x.Decode(told)
		two, others, _ := x.Decode(told)
		spoil(one)
		spoil(nodes)
		decodes(t, x, told, msg, wrong)
		for i := range told {
			spoil(told[i].Data)
		}
		if !bytes.Equal(two, msg) || !slices.Equal(others, wrong) {
			t.Errorf("%v: a message shares memory: %v, %v", c, two, others)
		}
	}
}

// P14.8: what the caller changes afterwards, in what is sent for repairs, changes nothing else, and no later result.
func TestNothingSharedOfRepairs(t *testing.T) {
	for i, c := range small() {
		x, m := made(t, c), modelOf(t, c)
		shares := m.shares(mixed(i, x.Shape().B))
		for to := range c.N {
			from := (to + 1) % c.N
			sent := m.helps(to, shares, []int{from})[0].Data
			share := bytes.Clone(shares[from])
			one, _ := x.Help(from, to, share)
			two, _ := x.Help(from, to, share)
			spoil(one)
			sends(t, x, from, to, share, sent)
			spoil(share)
			if !bytes.Equal(two, sent) {
				t.Errorf("%v: what is sent shares memory: %v", c, two)
			}
			have := upTo(c.N)
			asked, _ := x.Helpers(to, have)
			again, _ := x.Helpers(to, have)
			spoil(asked)
			spoil(have)
			want, _ := m.asked(to, upTo(c.N))
			if !slices.Equal(again, want) {
				t.Errorf("%v: helpers share memory: %v", c, again)
			}
			asks(t, x, to, upTo(c.N), want, true)
			helps := changed(m.helps(to, shares, besides(shuffled(i, c.N), to)), upTo(c.T), i)
			was := copied(helps)
			repaired, liars, _ := x.Repair(to, helps)
			other, others, _ := x.Repair(to, helps)
			spoil(repaired)
			spoil(liars)
			for i := range helps {
				spoil(helps[i].Data)
			}
			repairs(t, x, to, was, other, others)
			if !bytes.Equal(other, shares[to]) || len(others) != c.T {
				t.Errorf("%v: a repaired share shares memory: %v, %v", c, other, others)
			}
		}
	}
}

// The rules for results: calls at once, of one codec, have the results of calls one by one.
func TestAtOnce(t *testing.T) {
	for _, c := range []api.Config{{Code: 1, N: 9, K: 2, T: 3, W: 8}, {Code: 2, N: 9, K: 2, D: 4, T: 2, W: 6}, {Code: 3, N: 9, K: 3, D: 4, T: 2, W: 7}, {Code: 4, N: 9, K: 4, W: 5}, {Code: 5, N: 9, K: 2, R: 2, W: 8}} {
		x, m := made(t, c), modelOf(t, c)
		var calls sync.WaitGroup
		for seed := range 8 {
			calls.Go(func() {
				msg := mixed(seed, x.Shape().B)
				shares := m.shares(msg)
				encodes(t, x, msg, shares)
				told := changed(picked(shares, shuffled(seed, c.N)), upTo(c.T), seed)
				decodes(t, x, told, msg, nodesAt(told, upTo(c.T)))
				nodes, ok := m.asked(seed, upTo(c.N))
				asks(t, x, seed, upTo(c.N), nodes, ok)
				helps := changed(m.helps(seed, shares, nodes), upTo(c.T), seed)
				repairs(t, x, seed, helps, shares[seed], nodesAt(helps, upTo(c.T)))
				sends(t, x, 8, seed, shares[8], m.helps(seed, shares, []int{8})[0].Data)
			})
		}
		calls.Wait()
	}
}
