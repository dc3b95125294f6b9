package stripe_test

import (
	"bytes"
	"math"
	"slices"
	"sync"
	"testing"

	"starfish/api"
	"starfish/codec"
	"starfish/stripe"
)

// Examples.
func TestExamples(t *testing.T) {
	c := api.Config{Code: api.Reed, N: 4, K: 2, W: 3}
	s, m := made(t, c), modelOf(t, c)
	for size, want := range map[int]int{0: 2, 1: 3, 4097: 0} {
		if n := s.Stripes(size); n != want {
			t.Errorf("Stripes(%d): %d", size, n)
		}
	}
	splits(t, s, nil, [][]byte{{0, 0}, {0, 0}, {0, 0}, {0, 0}})
	rows, e := s.Split([]byte{7, 1})
	if e != api.OK || len(rows) != 4 || !bytes.Equal(rows[0], []byte{0, 2, 6}) || !bytes.Equal(rows[1], []byte{0, 4, 5}) {
		t.Errorf("Split: %v, %d", rows, e)
	}
	join := calls[0]
	join.is(t, m, s, 0, []api.Symbols{symbol(0, 0, 2, 6), symbol(1, 0, 4, 5)}, []byte{7, 1}, nil)
	join.isNot(t, m, s, 0, []api.Symbols{symbol(0, 0, 2, 6)}, api.ErrFew)
}

// splits reports a result of Split that is not these rows.
func splits(t *testing.T, s *stripe.Code, value []byte, want [][]byte) {
	t.Helper()
	if rows, e := s.Split(value); e != api.OK || !slices.EqualFunc(rows, want, bytes.Equal) {
		t.Errorf("Split of %v: %v, %d, want %v", value, rows, e, want)
	}
}

// P15.1: without a code, or one that New did not make, whatever the arguments. The chapter does not speak of the latter, but its calls must not panic.
func TestNoCode(t *testing.T) {
	if s, e := stripe.New(nil); s != nil || e != api.ErrNil {
		t.Errorf("New of none: %v, %d", s, e)
	}
	other, e := stripe.New(new(codec.Codec))
	if (other == nil) != (e != api.OK) {
		t.Errorf("New of an empty one: %v, %d", other, e)
	}
	lists := [][]api.Symbols{nil, {}, {symbol(0, 5), symbol(1, 6)}, {symbol(-1)}, {symbol(0)}, {symbol(0, 1, 2, 3, 4), symbol(1, 1, 2, 3, 4)}}
	nodes := []int{0, 1, -1, 255, math.MaxInt, math.MinInt}
	for _, s := range []*stripe.Code{nil, {}, other} {
		is := func(what string, e api.Errno, empty bool) {
			t.Helper()
			if s == nil && (e != api.ErrNil || !empty) {
				t.Errorf("%s: the error %d, no results: %v", what, e, empty)
			}
		}
		for _, size := range []int{-1, 0, 1, 4096, 4097, math.MaxInt, math.MinInt} {
			is("Stripes", api.ErrNil, s.Stripes(size) == 0)
		}
		for _, b := range [][]byte{nil, {}, {5}, {5, 6}, make([]byte, 4096), make([]byte, 4097)} {
			rows, e := s.Split(b)
			is("Split", e, len(rows) == 0)
			for _, from := range nodes {
				for _, to := range nodes {
					help, e := s.Help(from, to, b)
					is("Help", e, len(help) == 0)
				}
			}
		}
		for _, x := range calls {
			for _, to := range nodes {
				for _, l := range lists {
					b, wrong, e := x.made(s, to, l)
					is(x.name, e, len(b)+len(wrong) == 0)
				}
			}
		}
	}
}

// P15.1: the code of each codec.
func TestNew(t *testing.T) {
	for _, c := range all() {
		made(t, c)
	}
}

// P15.2: all sizes, and what is no size.
func TestStripes(t *testing.T) {
	for _, c := range all() {
		s, m := made(t, c), modelOf(t, c)
		for size := range 4097 {
			if got := s.Stripes(size); got != len(m.packed(make([]byte, size)))/m.shape.B {
				t.Errorf("%v: Stripes(%d): %d", c, size, got)
			}
		}
		for _, size := range []int{-1, -4, -5, -4096, math.MinInt, math.MinInt + 3, 4097, 4098, 8192, 65536, 1 << 31, 1 << 32, 1<<32 + 1, math.MaxInt, math.MaxInt - 3} {
			if got := s.Stripes(size); got != 0 {
				t.Errorf("%v: Stripes(%d): %d", c, size, got)
			}
		}
	}
}

// values are some of sizes around multiples of B, and of 256, and at the limit; mixed ones, zeros, and ones.
func values(m *model) (out [][]byte) {
	b := m.shape.B
	for i, size := range []int{0, 1, 2, 3, 5, b - 5, b - 4, b - 3, b - 1, b, 2*b - 5, 2*b - 4, 2*b - 3, 3 * b, 37, 255, 256, 257} {
		if size >= 0 && size <= 4096 {
			out = append(out, mixed(i, size))
		}
	}
	return append(out, make([]byte, 9), bytes.Repeat([]byte{255}, 20), append(make([]byte, 20), 1), append([]byte{1}, make([]byte, 20)...))
}

// P15.3: the rows of the definition, of which all, and just enough, are the value again.
func TestSplit(t *testing.T) {
	for i, c := range all() {
		s, m := made(t, c), modelOf(t, c)
		for j, value := range append(values(m), mixed(i, 4096), mixed(i, 4095)) {
			if c.N > 20 && j%3 != i%3 {
				continue
			}
			rows := m.rows(value)
			splits(t, s, value, rows)
			given := picked(rows, shuffled(i+j, c.N))
			calls[0].is(t, m, s, 0, given, value, nil)
			calls[0].is(t, m, s, 0, given[:calls[0].needs(m)], value, nil)
		}
	}
}

// P15.3: values that are too large.
func TestSplitLarge(t *testing.T) {
	for _, c := range all() {
		s := made(t, c)
		for _, size := range []int{4097, 4098, 8192, 65536, 65540, 1 << 20} {
			if rows, e := s.Split(make([]byte, size)); e != api.ErrLarge || len(rows) != 0 {
				t.Errorf("%v: Split of %d bytes: %v, %d", c, size, rows, e)
			}
		}
	}
}

// P15.5: what each node sends, stripe by stripe; of any bytes, not only those of values.
func TestHelp(t *testing.T) {
	for _, c := range all() {
		s, m := made(t, c), modelOf(t, c)
		for seed := range 60 {
			from, to := seed%c.N, seed/c.N*3%c.N
			if from == to {
				continue
			}
			row := mixed(seed, m.shape.Alpha*(1+seed%3))
			if seed == 7 {
				row = mixed(seed, m.shape.Alpha*s.Stripes(4096))
			}
			if help, e := s.Help(from, to, row); e != api.OK || !bytes.Equal(help, m.help(from, to, row)) {
				t.Errorf("%v: Help from %d to %d of %v: %v, %d", c, from, to, row, help, e)
			}
		}
	}
}

// P15.5: wrong nodes, and rows whose length is that of no value.
func TestHelpWrongArguments(t *testing.T) {
	for _, c := range all() {
		s, m := made(t, c), modelOf(t, c)
		alpha := m.shape.Alpha
		isNot := func(from, to, size int) {
			t.Helper()
			if help, e := s.Help(from, to, make([]byte, size)); e != api.ErrArg || len(help) != 0 {
				t.Errorf("%v: Help from %d to %d of %d bytes: %v, %d", c, from, to, size, help, e)
			}
		}
		for _, no := range outside(c.N) {
			isNot(no, 0, alpha)
			isNot(0, no, alpha)
			isNot(no, no, 2*alpha)
			isNot(no, c.N-1, 0)
		}
		for _, node := range []int{0, 1, c.N - 1} {
			isNot(node, node, alpha)
			most := alpha * s.Stripes(4096)
			for _, size := range []int{0, 1, alpha - 1, alpha + 1, 2*alpha - 1, most - 1, most + 1, most + alpha, 2 * most, alpha * 70000} {
				if size%alpha != 0 || size == 0 || size > most {
					isNot(node, (node+1)%c.N, size)
				}
			}
		}
	}
}

// spoil changes a list, and all that is after its length in its memory.
func spoil[E byte | int](list []E) {
	list = list[:cap(list)]
	for i := range list {
		list[i] ^= 0x5a
	}
}

// longer returns symbols with more after the length of the list, and of each one's bytes, in their memory.
func longer(symbols []api.Symbols) []api.Symbols {
	out := make([]api.Symbols, 0, len(symbols)+4)
	for _, s := range slices.Concat(symbols, []api.Symbols{symbol(1, 7), symbol(0, 8), symbol(2, 9)}) {
		out = append(out, symbol(s.Node, append(append(make([]byte, 0, len(s.Data)+9), s.Data...), 41, 42, 43, 44, 45)[:len(s.Data)]...))
	}
	return out[:len(symbols)]
}

// whole are all bytes in the memory of symbols, also those after lengths.
func whole(symbols []api.Symbols) (out []int) {
	for _, s := range symbols[:cap(symbols)] {
		out = append(out, s.Node, len(s.Data))
		for _, b := range s.Data[:cap(s.Data)] {
			out = append(out, int(b))
		}
	}
	return out
}

// P15.8: arguments are left as they were, with what is after their length in their memory.
func TestArgumentsStay(t *testing.T) {
	for i, c := range small() {
		s, m := made(t, c), modelOf(t, c)
		value := append(mixed(i, 30), 1, 2, 3, 4, 5, 6, 7)
		kept := bytes.Clone(value)
		s.Split(value[:30])
		s.Split(value)
		if !bytes.Equal(value, kept) {
			t.Errorf("%v: a value was changed", c)
		}
		rows := m.rows(value[:30])
		row := append(slices.Grow(bytes.Clone(rows[1]), 9), 1, 2, 3)
		kept = bytes.Clone(row)
		s.Help(1, 0, row[:len(rows[1])])
		s.Help(1, 0, row)
		if !bytes.Equal(row, kept) {
			t.Errorf("%v: a row was changed", c)
		}
		for _, x := range calls {
			for count := range c.T + 2 {
				given := x.given(m, 0, rows)
				for way := range 7 {
					given := longer(changed(given, shuffled(way, len(given))[:min(count, len(given))], way))
					was := whole(given)
					x.made(s, 0, given)
					x.made(s, 0, given[:count])
					if !slices.Equal(was, whole(given)) {
						t.Errorf("%v: arguments of %s were changed: %v", c, x.name, given)
					}
				}
			}
		}
	}
}

// P15.8: what the caller changes afterwards, in values and rows, changes nothing else, and no later result.
func TestNothingShared(t *testing.T) {
	for i, c := range small() {
		s, m := made(t, c), modelOf(t, c)
		value := mixed(i, 20)
		want := m.rows(value)
		given := bytes.Clone(value)
		first, _ := s.Split(given)
		second, _ := s.Split(given)
		spoil(given)
		for node := range first {
			if !bytes.Equal(first[node], want[node]) {
				t.Errorf("%v: the rows of %d and one before share memory", c, node)
			}
			spoil(first[node])
		}
		if !slices.EqualFunc(second, want, bytes.Equal) {
			t.Errorf("%v: rows share memory: %v", c, second)
		}
		splits(t, s, value, want)
		row := bytes.Clone(want[1])
		help, _ := s.Help(1, 0, row)
		again, _ := s.Help(1, 0, row)
		spoil(help)
		spoil(row)
		if !bytes.Equal(again, m.help(1, 0, want[1])) {
			t.Errorf("%v: helps share memory: %v", c, again)
		}
		for _, x := range calls {
			all := changed(x.given(m, 0, want), upTo(c.T), i)
			was := copied(all)
			one, nodes, _ := x.made(s, 0, all)
			two, others, _ := x.made(s, 0, all)
			spoil(one)
			spoil(nodes)
			for i := range all {
				spoil(all[i].Data)
			}
			result := x.want(0, value, want)
			x.is(t, m, s, 0, was, result, nodesAt(was, upTo(c.T)))
			if !bytes.Equal(two, result) || !slices.Equal(others, nodesAt(was, upTo(c.T))) {
				t.Errorf("%v: results of %s share memory: %v, %v", c, x.name, two, others)
			}
		}
	}
}

// The rules for results: calls at once, of one code, have the results of calls one by one.
func TestAtOnce(t *testing.T) {
	for _, c := range []api.Config{{Code: 1, N: 9, K: 2, T: 3, W: 8}, {Code: 2, N: 9, K: 2, D: 4, T: 2, W: 6}, {Code: 3, N: 9, K: 3, D: 4, T: 2, W: 7}, {Code: 4, N: 9, K: 4, W: 5}, {Code: 5, N: 9, K: 2, R: 2, T: 2, W: 8}} {
		s, m := made(t, c), modelOf(t, c)
		var running sync.WaitGroup
		for seed := range 8 {
			running.Go(func() {
				value := mixed(seed, 30)
				rows := m.rows(value)
				splits(t, s, value, rows)
				for _, x := range calls {
					given := changed(x.given(m, seed, rows), upTo(c.T), seed)
					x.is(t, m, s, seed, given, x.want(seed, value, rows), nodesAt(given, upTo(c.T)))
				}
			})
		}
		running.Wait()
	}
}
