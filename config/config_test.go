package config_test

import (
	"bytes"
	"testing"

	"starfish/api"
	"starfish/config"
	"starfish/local"
	"starfish/mbr"
	"starfish/msr"
	"starfish/points"
	"starfish/transfer"
)

// Examples.
func TestExamples(t *testing.T) {
	for _, x := range []struct {
		code  api.Config
		shape config.Shape
	}{
		{api.Config{Code: api.Reed, N: 6, K: 3, T: 1, W: 5}, config.Shape{Alpha: 1, B: 3, Tells: 3, Asked: 5, Told: 1}},
		{api.Config{Code: api.MSR, N: 6, K: 3, D: 4, W: 4}, config.Shape{Alpha: 2, B: 6, Tells: 3, Asked: 4, Told: 1}},
		{api.Config{Code: api.MBR, N: 6, K: 3, D: 4, W: 4}, config.Shape{Alpha: 4, B: 9, Tells: 3, Asked: 4, Told: 1}},
		{api.Config{Code: api.Transfer, N: 5, K: 3, W: 4}, config.Shape{Alpha: 4, B: 9, Tells: 3, Asked: 4, Told: 1}},
		{api.Config{Code: api.Local, N: 6, K: 2, R: 2, W: 4}, config.Shape{Alpha: 1, B: 2, Tells: 2, Asked: 2, Told: 1}},
		{api.Config{Code: api.Reed, N: 6, K: 3, T: 2, W: 6}, config.Shape{}},
		{api.Config{Code: api.MBR, N: 5, K: 3, D: 4, T: 1, W: 5}, config.Shape{}},
	} {
		failure := api.OK
		if x.shape == (config.Shape{}) {
			failure = api.ErrConfig
		}
		if s, e := config.Check(x.code); s != x.shape || e != failure {
			t.Errorf("Check of %v: %v, %d", x.code, s, e)
		}
	}
}

// P13.1: shapes by hand, at the edges that the conditions name, and one beyond.
func TestCheckByHand(t *testing.T) {
	for _, x := range []struct {
		code  api.Config
		shape config.Shape
	}{
		{api.Config{Code: 1, N: 2, K: 1, W: 1}, config.Shape{Alpha: 1, B: 1, Tells: 1, Asked: 1, Told: 1}},
		{api.Config{Code: 1, N: 1, K: 1, W: 1}, config.Shape{}},
		{api.Config{Code: 1, N: 255, K: 2, T: 126, W: 255}, config.Shape{Alpha: 1, B: 2, Tells: 2, Asked: 254, Told: 1}},
		{api.Config{Code: 1, N: 255, K: 1, T: 127, W: 255}, config.Shape{}},
		{api.Config{Code: 2, N: 255, K: 17, D: 32, W: 17}, config.Shape{Alpha: 16, B: 272, Tells: 17, Asked: 32, Told: 1}},
		{api.Config{Code: 2, N: 254, K: 17, D: 33, W: 17}, config.Shape{}},
		{api.Config{Code: 2, N: 83, K: 3, D: 5, W: 6}, config.Shape{Alpha: 3, B: 9, Tells: 3, Asked: 5, Told: 1}},
		{api.Config{Code: 2, N: 84, K: 3, D: 5, W: 6}, config.Shape{Alpha: 3, B: 9, Tells: 3, Asked: 5, Told: 1}},
		{api.Config{Code: 2, N: 85, K: 3, D: 5, W: 6}, config.Shape{}},
		{api.Config{Code: 2, N: 16, K: 2, D: 16, W: 6}, config.Shape{}},
		{api.Config{Code: 2, N: 17, K: 2, D: 16, W: 2}, config.Shape{}},
		{api.Config{Code: 2, N: 47, K: 2, D: 6, W: 2}, config.Shape{Alpha: 5, B: 10, Tells: 2, Asked: 6, Told: 1}},
		{api.Config{Code: 2, N: 48, K: 2, D: 6, W: 2}, config.Shape{}},
		{api.Config{Code: 2, N: 79, K: 4, D: 9, W: 4}, config.Shape{Alpha: 6, B: 24, Tells: 4, Asked: 9, Told: 1}},
		{api.Config{Code: 2, N: 82, K: 4, D: 9, W: 4}, config.Shape{Alpha: 6, B: 24, Tells: 4, Asked: 9, Told: 1}},
		{api.Config{Code: 2, N: 83, K: 4, D: 9, W: 4}, config.Shape{}},
		{api.Config{Code: 2, N: 19, K: 2, D: 14, T: 2, W: 6}, config.Shape{Alpha: 13, B: 26, Tells: 2, Asked: 18, Told: 1}},
		{api.Config{Code: 2, N: 18, K: 2, D: 14, T: 2, W: 6}, config.Shape{}},
		{api.Config{Code: 3, N: 255, K: 254, D: 254, W: 254}, config.Shape{Alpha: 254, B: 32385, Tells: 254, Asked: 254, Told: 1}},
		{api.Config{Code: 3, N: 8, K: 1, D: 5, T: 1, W: 3}, config.Shape{Alpha: 5, B: 5, Tells: 1, Asked: 7, Told: 1}},
		{api.Config{Code: 3, N: 7, K: 1, D: 5, T: 1, W: 3}, config.Shape{}},
		{api.Config{Code: 4, N: 23, K: 22, W: 22}, config.Shape{Alpha: 22, B: 253, Tells: 22, Asked: 22, Told: 1}},
		{api.Config{Code: 4, N: 23, K: 23, W: 23}, config.Shape{}},
		{api.Config{Code: 4, N: 24, K: 2, W: 4}, config.Shape{}},
		{api.Config{Code: 5, N: 255, K: 168, R: 2, W: 251}, config.Shape{Alpha: 1, B: 168, Tells: 251, Asked: 2, Told: 1}},
		{api.Config{Code: 5, N: 255, K: 170, R: 2, W: 254}, config.Shape{Alpha: 1, B: 170, Tells: 254, Asked: 2, Told: 1}},
		{api.Config{Code: 5, N: 255, K: 168, R: 2, T: 1, W: 254}, config.Shape{Alpha: 1, B: 168, Tells: 251, Asked: 253, Told: 1}},
		{api.Config{Code: 5, N: 255, K: 168, R: 2, T: 2, W: 255}, config.Shape{}},
		{api.Config{Code: 5, N: 255, K: 254, R: 254, W: 255}, config.Shape{Alpha: 1, B: 254, Tells: 254, Asked: 254, Told: 1}},
	} {
		failure := api.OK
		if x.shape == (config.Shape{}) {
			failure = api.ErrConfig
		}
		if s, e := config.Check(x.code); s != x.shape || e != failure {
			t.Errorf("Check of %v: %v, %d", x.code, s, e)
		}
	}
}

// P13.1: all codes of small numbers, and of those around 0.
func TestCheckSmall(t *testing.T) {
	count := 0
	few, more := span(-1, 2), span(-1, 8)
	for kind := range uint8(8) {
		ds, rs := few, few
		if kind == api.MSR || kind == api.MBR {
			ds = more
		}
		if kind == api.Local {
			rs = more
		}
		for _, n := range span(-1, 7) {
			for _, k := range more {
				for _, d := range ds {
					for _, r := range rs {
						for _, most := range span(-1, 3) {
							for _, w := range more {
								if checked(t, api.Config{Code: kind, N: n, K: k, D: d, R: r, T: most, W: w}) {
									count++
								}
							}
						}
					}
				}
			}
		}
	}
	if count < 300 {
		t.Errorf("only %d were valid", count)
	}
}

// edges checks a code for each T and W at an edge, one more and one less, and returns how many of these are valid.
func edges(t *testing.T, c api.Config) (count int) {
	t.Helper()
	for _, most := range []int{-1, 0, 1, 2, (c.N - c.K - 1) / 2, (c.N - c.K) / 2, (c.N - c.D - 1) / 2, (c.N - c.D) / 2, 126, 127, 128} {
		c.T = most
		tells := c.K
		if c.Code == api.Local && c.R > 0 {
			tells += c.K/c.R - 1
		}
		for _, w := range []int{0, 1, tells + 2*most - 1, tells + 2*most, tells + 2*most + 1, c.N - 1, c.N, c.N + 1} {
			c.W = w
			if checked(t, c) {
				count++
			}
		}
	}
	return count
}

// P13.1: N at its limit, and beyond.
func TestCheckLimits(t *testing.T) {
	count := 0
	for _, n := range []int{0, 1, 2, 253, 254, 255, 256, 257} {
		for _, k := range []int{0, 1, 2, 3, 4, 14, 15, 16, 17, 18, n/2 - 1, n / 2, n/2 + 1, n - 2, n - 1, n, n + 1} {
			for _, d := range []int{0, 1, k - 1, k, k + 1, 2*k - 3, 2*k - 2, 2*k - 1, k + 14, k + 15, k + 16, n - 2, n - 1, n} {
				count += edges(t, api.Config{Code: api.MSR, N: n, K: k, D: d})
				count += edges(t, api.Config{Code: api.MBR, N: n, K: k, D: d})
			}
			for _, d := range []int{0, 1, -1} {
				for _, r := range []int{0, 1, -1} {
					count += edges(t, api.Config{Code: api.Reed, N: n, K: k, D: d, R: r})
				}
			}
		}
	}
	if count < 2000 {
		t.Errorf("only %d were valid", count)
	}
}

// P13.1: the places of codes with minimum storage, as many as there can be for each Alpha.
func TestCheckPlaces(t *testing.T) {
	for alpha := 1; alpha <= 17; alpha++ {
		for k := 2; k <= alpha+2; k++ {
			for n := 1; n <= 256; n++ {
				checked(t, api.Config{Code: api.MSR, N: n, K: k, D: alpha + k - 1, W: n})
			}
		}
	}
}

// P13.1: groups of all sizes.
func TestCheckGroups(t *testing.T) {
	count := 0
	for _, r := range append(span(-3, 90), 126, 127, 128, 169, 170, 253, 254, 255, 256, 509) {
		for _, n := range []int{0, 1, r, r + 1, r + 2, 2 * (r + 1), 3*(r+1) - 1, 3 * (r + 1), 254, 255, 256, 510} {
			for _, k := range []int{0, 1, r - 1, r, r + 1, 2 * r, 2*r + 1, n - n/(r*r+1), n - 1, n} {
				count += edges(t, api.Config{Code: api.Local, N: n, K: k, R: r})
				checked(t, api.Config{Code: api.Local, N: n, K: k, R: r, D: 1, W: n})
			}
		}
	}
	for k := range 256 {
		for _, r := range []int{2, 4, 14, 16, 50, 84, 254} {
			checked(t, api.Config{Code: api.Local, N: 255, K: k, R: r, W: 255})
			checked(t, api.Config{Code: api.Local, N: 255, K: k, R: r, T: 1, W: 255})
		}
	}
	if count < 300 {
		t.Errorf("only %d were valid", count)
	}
}

// P13.1: as many edges as there can be, and more.
func TestCheckEdges(t *testing.T) {
	for _, n := range append(span(-1, 30), 253, 254, 255, 256, 257) {
		for _, k := range append(span(-1, 31), n-1, n, n+1) {
			edges(t, api.Config{Code: api.Transfer, N: n, K: k})
			checked(t, api.Config{Code: api.Transfer, N: n, K: k, D: 1, W: n})
			checked(t, api.Config{Code: api.Transfer, N: n, K: k, R: 1, W: n})
			checked(t, api.Config{Code: api.Transfer, N: n, K: k, D: n - 1, W: n})
		}
	}
}

// P13.1, P13.2: each number of a valid code replaced by another one, or two of them by huge ones.
func TestReplaced(t *testing.T) {
	for _, c := range valid() {
		if !checked(t, c) {
			t.Errorf("%v is not valid", c)
		}
		for kind := range 256 {
			other := c
			other.Code = uint8(kind)
			checked(t, other)
		}
		for at := range 6 {
			for _, n := range span(-3, 260) {
				checked(t, with(c, at, n))
			}
			for _, n := range huge() {
				checked(t, with(c, at, n))
				if b, e := config.Put(with(c, at, n)); e != api.ErrConfig || len(b) != 0 {
					t.Errorf("Put of %v: %v, %d", with(c, at, n), b, e)
				}
				for second := range at {
					for _, m := range huge() {
						checked(t, with(with(c, at, n), second, m))
					}
				}
			}
		}
	}
}

// P13.1: the layers below accept what is valid, and have the same numbers; what they don't accept is not valid.
func TestLayersBelow(t *testing.T) {
	for n := range 9 {
		for k := range 9 {
			for d := range 9 {
				checkedBelow(t, api.Config{Code: api.MSR, N: n, K: k, D: d})
				checkedBelow(t, api.Config{Code: api.MBR, N: n, K: k, D: d})
				checkedBelow(t, api.Config{Code: api.Local, N: n, K: k, R: d})
			}
			checkedBelow(t, api.Config{Code: api.Transfer, N: n, K: k})
		}
	}
	for _, c := range valid() {
		for at := range 4 {
			for _, by := range []int{-1, 0, 1} {
				checkedBelow(t, with(c, at, []int{c.N, c.K, c.D, c.R}[at]+by))
			}
		}
	}
}

// checkedBelow reports a code (with T 0, and W as N) that has not the shape of that of its package, or that is valid though its package does not accept it.
func checkedBelow(t *testing.T, c api.Config) {
	t.Helper()
	c.T, c.W = 0, c.N
	var s config.Shape
	failure := api.ErrArg
	switch c.Code {
	case api.MSR:
		below, e := msr.New(nil, c.N, c.K, c.D)
		s, failure = config.Shape{Alpha: below.Alpha(), B: below.B(), Tells: c.K, Asked: c.D}, e
	case api.MBR:
		below, e := mbr.New(nil, c.N, c.K, c.D)
		s, failure = config.Shape{Alpha: below.Alpha(), B: below.B(), Tells: c.K, Asked: c.D}, e
	case api.Transfer:
		below, e := transfer.New(nil, c.N, c.K)
		s, failure = config.Shape{Alpha: below.Alpha(), B: below.B(), Tells: c.K, Asked: c.N - 1}, e
	case api.Local:
		below, e := local.New(nil, c.N, c.K, c.R)
		s, failure = config.Shape{Alpha: 1, B: c.K, Tells: below.Tells(), Asked: c.R}, e
	default:
		return
	}
	s.Told = 1
	unused := c.D
	if c.Code == api.MSR || c.Code == api.MBR {
		unused = c.R
	}
	if failure != api.OK || s.Tells >= c.N || unused != 0 || c.Code == api.Transfer && c.R != 0 {
		s = config.Shape{}
	}
	if got, e := config.Check(c); got != s || (e == api.OK) != (s.Told == 1) {
		t.Errorf("Check of %v: %v, %d, want %v", c, got, e, s)
	}
}

// P13.1: there are as many places as chapter 6 has points for.
func TestSpread(t *testing.T) {
	for alpha := 2; alpha <= 16; alpha++ {
		for n := alpha + 2; n <= 255; n++ {
			_, want := points.Spread(nil, n+alpha-1, alpha)
			_, got := config.Check(api.Config{Code: api.MSR, N: n, K: 2, D: alpha + 1, W: n})
			if (want == api.OK) != (got == api.OK) {
				t.Errorf("Alpha %d, N %d: %d, %d", alpha, n, got, want)
			}
		}
	}
}

// P13.2, P13.3, P13.4: what is put is read back as it was.
func TestPutGet(t *testing.T) {
	for _, c := range valid() {
		b, e := config.Put(c)
		if e != api.OK || !bytes.Equal(b, bytesOf(c)) {
			t.Errorf("Put of %v: %v, %d", c, b, e)
		}
		if got, e := config.Get(bytesOf(c)); e != api.OK || got != c {
			t.Errorf("Get of the bytes of %v: %v, %d", c, got, e)
		}
	}
	b, e := config.Put(api.Config{Code: api.Local, N: 15, K: 4, R: 4, T: 2, W: 9})
	if want := []byte{5, 15, 4, 0, 4, 2, 9}; e != api.OK || !bytes.Equal(b, want) {
		t.Errorf("Put: %v, %d", b, e)
	}
	b, e = config.Put(api.Config{Code: api.MSR, N: 255, K: 9, D: 16, T: 119, W: 254})
	if want := []byte{2, 255, 9, 16, 0, 119, 254}; e != api.OK || !bytes.Equal(b, want) {
		t.Errorf("Put: %v, %d", b, e)
	}
}

// P13.2, P13.3: what is not valid has no bytes, and what are the bytes of no valid code is none.
func TestPutGetNot(t *testing.T) {
	for _, c := range valid() {
		for at := range 6 {
			for n := range 256 {
				other := with(c, at, n)
				_, ok := wanted(other)
				b, e := config.Put(other)
				if ok != (e == api.OK) || !ok && (e != api.ErrConfig || len(b) != 0) {
					t.Errorf("Put of %v: %v, %d", other, b, e)
				}
				got, e := config.Get(bytesOf(other))
				if ok != (e == api.OK) || ok && got != other || !ok && (e != api.ErrConfig || got != api.Config{}) {
					t.Errorf("Get of the bytes of %v: %v, %d", other, got, e)
				}
			}
		}
		for _, kind := range []byte{0, 6, 7, 128, 255} {
			b := bytesOf(c)
			b[0] = kind
			if got, e := config.Get(b); e != api.ErrConfig || got != (api.Config{}) {
				t.Errorf("Get of %v: %v, %d", b, got, e)
			}
		}
	}
}

// P13.3: bytes of another length.
func TestGetLength(t *testing.T) {
	for _, c := range valid() {
		b := append(bytesOf(c), 0, 0, 0, 0, 0, 0, 0)
		twice := append(bytesOf(c), bytesOf(c)...)
		for _, list := range [][]byte{b, twice, bytes.Repeat(bytesOf(c), 1000)} {
			for size := range len(b) + 1 {
				got, e := config.Get(list[:size])
				if size == 7 && (e != api.OK || got != c) || size != 7 && (e != api.ErrConfig || got != api.Config{}) {
					t.Errorf("Get of %v: %v, %d", list[:size], got, e)
				}
			}
			if got, e := config.Get(list); e != api.ErrConfig || got != (api.Config{}) {
				t.Errorf("Get of %d bytes: %v, %d", len(list), got, e)
			}
		}
	}
	for _, none := range [][]byte{nil, {}} {
		if got, e := config.Get(none); e != api.ErrConfig || got != (api.Config{}) {
			t.Errorf("Get of nothing: %v, %d", got, e)
		}
	}
}

// P13.4: a valid code is valid also with T less by one.
func TestLessWrong(t *testing.T) {
	for _, c := range valid() {
		for c.T > 0 {
			c.T--
			if _, e := config.Check(c); e != api.OK {
				t.Errorf("Check of %v: %d", c, e)
			}
		}
	}
}

// P13.4: the cut-set bound, with equality.
func TestCutSet(t *testing.T) {
	count := 0
	for _, kind := range []uint8{api.MSR, api.MBR} {
		for n := range 45 {
			for k := range n {
				for d := range n {
					s, e := config.Check(api.Config{Code: kind, N: n, K: k, D: d, W: n})
					if e != api.OK {
						continue
					}
					count++
					if s.B != flow(k, d, s.Alpha) {
						t.Errorf("kind %d, N %d, K %d, D %d: B %d", kind, n, k, d, s.B)
					}
				}
			}
		}
	}
	if count < 5000 {
		t.Errorf("only %d were valid", count)
	}
}

// The rules for arguments and results: bytes are only read, and each result is new.
func TestNothingShared(t *testing.T) {
	for _, c := range valid() {
		one, _ := config.Put(c)
		two, _ := config.Put(c)
		clear(one[:cap(one)])
		if !bytes.Equal(two, bytesOf(c)) {
			t.Errorf("bytes of %v share memory: %v", c, two)
		}
		given := append(bytesOf(c), 41, 42, 43)
		config.Get(given[:7])
		config.Get(given[:6])
		config.Get(given)
		if !bytes.Equal(given, append(bytesOf(c), 41, 42, 43)) {
			t.Errorf("the bytes of %v were changed: %v", c, given)
		}
	}
}
