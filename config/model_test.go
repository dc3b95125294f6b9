package config_test

import (
	"math"
	"testing"

	"starfish/api"
	"starfish/config"
)

// bound is above all numbers of valid codes, and far from what an int can't hold.
const bound = 1000

// wanted is the shape of a code by the definitions, by counting rather than by formulas; false if it is not valid.
func wanted(c api.Config) (s config.Shape, ok bool) {
	for _, n := range []int{c.N, c.K, c.D, c.R, c.T, c.W} {
		if n < 0 || n > bound {
			return s, false
		}
	}
	if c.N < 1 || c.N > 255 || c.T > 127 {
		return s, false
	}
	s.Told = 1
	switch c.Code {
	case 1:
		ok = c.D == 0 && c.R == 0 && 1 <= c.K && c.K <= c.N
		s.Alpha, s.B, s.Tells, s.Asked = 1, c.K, c.K, c.K+2*c.T
	case 2:
		s.Alpha, s.Tells, s.Asked = c.D-c.K+1, c.K, c.D+2*c.T
		s.B = s.Alpha * c.K
		ok = c.R == 0 && c.K > 1 && c.D >= 2*c.K-2 && c.N > c.D && s.Alpha <= 16 && differ(c.N+c.D-2*c.K+2, s.Alpha)
	case 3:
		ok = c.R == 0 && c.K > 0 && c.D >= c.K && c.N > c.D
		s.Alpha, s.Tells, s.Asked, s.B = c.D, c.K, c.D+2*c.T, touched(c.D, c.K)+c.K // the pairs of a row and another column, and the diagonal
	case 4:
		ok = c.D == 0 && c.R == 0 && c.T == 0 && c.K > 0 && c.N > c.K && touched(c.N, c.N) <= 255
		s.Alpha, s.Tells, s.Asked, s.B = c.N-1, c.K, c.N-1, touched(c.N, c.K)
	case 5:
		if c.D != 0 || c.R == 0 || c.K == 0 || 255%(c.R+1) != 0 || c.N%(c.R+1) != 0 || c.K%c.R != 0 {
			return config.Shape{}, false
		}
		s.Alpha, s.B, s.Tells, s.Asked = 1, c.K, c.K+c.K/c.R-1, c.R
		if c.T > 0 {
			s.Asked = s.Tells + 2*c.T
		}
		ok = s.Tells <= c.N
	}
	if !ok || c.W < s.Tells+2*c.T || c.W > c.N || s.Asked >= c.N || s.Tells+2*c.T >= c.N {
		return config.Shape{}, false
	}
	return s, true
}

// differ reports whether the powers alpha of the points g^0, g^1, .., so many of them, are all different; g has 255 powers.
func differ(points, alpha int) bool {
	seen := map[int]bool{}
	for i := range points {
		seen[i*alpha%255] = true
	}
	return points <= 255 && len(seen) == points
}

// touched counts the pairs of n things that have one of the first k in them.
func touched(n, k int) (count int) {
	for first := range min(k, n) {
		count += n - first - 1
	}
	return count
}

// flow is the most that d nodes that send one byte each allow: the cut-set bound.
func flow(k, d, alpha int) (sum int) {
	for i := range k {
		sum += min(alpha, d-i)
	}
	return sum
}

// span are the numbers from one to another one.
func span(from, to int) (out []int) {
	for i := from; i <= to; i++ {
		out = append(out, i)
	}
	return out
}

// checked reports a result of Check that is not that of the definitions, and returns whether the code is valid.
func checked(t *testing.T, c api.Config) bool {
	t.Helper()
	want, ok := wanted(c)
	failure := api.ErrConfig
	if ok {
		failure = api.OK
	}
	if s, e := config.Check(c); s != want || e != failure {
		t.Errorf("Check of %v: %v, %d, want %v, %d", c, s, e, want, failure)
	}
	return ok
}

// bytesOf are those of a code of small numbers.
func bytesOf(c api.Config) []byte {
	return []byte{c.Code, byte(c.N), byte(c.K), byte(c.D), byte(c.R), byte(c.T), byte(c.W)}
}

// with is a code in which one number, from 0 for N to 5 for W, is replaced.
func with(c api.Config, at, n int) api.Config {
	*[]*int{&c.N, &c.K, &c.D, &c.R, &c.T, &c.W}[at] = n
	return c
}

// huge are numbers that no code has, among them those that are small in fewer bits, or when they are doubled, or multiplied by each other.
func huge() []int {
	return []int{math.MaxInt, math.MaxInt - 1, math.MaxInt - 2, math.MaxInt/2 + 1, math.MaxInt/2 + 2, math.MaxInt/2 + 3, math.MaxInt/3 + 1, math.MinInt, math.MinInt + 1, math.MinInt + 2, math.MinInt / 2, math.MinInt/2 + 1, math.MinInt/2 + 2, 1 << 31, 1 << 32, 1<<32 + 1, 1<<32 + 2, 1<<32 + 3, 1<<32 + 4, 1<<32 + 6, -1 << 32, 3 << 32, 1<<33 + 2, 1<<62 + 1, 65536 + 3, 256, 257, 258, 259, 260, 262, 512 + 3, -250, -253, -254, -255, -256}
}

// valid are some valid codes of each kind: small ones, those of the examples, and those at limits.
func valid() []api.Config {
	return []api.Config{
		{Code: 1, N: 2, K: 1, W: 1},
		{Code: 1, N: 2, K: 1, W: 2},
		{Code: 1, N: 4, K: 2, W: 3},
		{Code: 1, N: 6, K: 3, T: 1, W: 5},
		{Code: 1, N: 254, K: 1, T: 126, W: 253},
		{Code: 1, N: 255, K: 2, T: 126, W: 254},
		{Code: 1, N: 255, K: 254, W: 255},
		{Code: 2, N: 3, K: 2, D: 2, W: 2},
		{Code: 2, N: 6, K: 3, D: 4, W: 4},
		{Code: 2, N: 9, K: 2, D: 4, T: 2, W: 7},
		{Code: 2, N: 84, K: 3, D: 5, W: 84},
		{Code: 2, N: 255, K: 9, D: 16, T: 119, W: 255},
		{Code: 2, N: 255, K: 17, D: 32, W: 20},
		{Code: 3, N: 2, K: 1, D: 1, W: 1},
		{Code: 3, N: 6, K: 3, D: 4, W: 4},
		{Code: 3, N: 9, K: 2, D: 4, T: 2, W: 7},
		{Code: 3, N: 255, K: 254, D: 254, W: 254},
		{Code: 3, N: 255, K: 1, D: 2, T: 126, W: 253},
		{Code: 4, N: 2, K: 1, W: 1},
		{Code: 4, N: 5, K: 3, W: 4},
		{Code: 4, N: 23, K: 22, W: 23},
		{Code: 5, N: 3, K: 2, R: 2, W: 3},
		{Code: 5, N: 6, K: 2, R: 2, W: 4},
		{Code: 5, N: 15, K: 4, R: 4, T: 2, W: 9},
		{Code: 5, N: 255, K: 168, R: 2, W: 255},
		{Code: 5, N: 255, K: 2, R: 2, T: 126, W: 255},
		{Code: 5, N: 255, K: 254, R: 254, W: 254},
	}
}
