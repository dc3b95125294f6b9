package matrix

import (
	"bytes"
	"math"
	"slices"
	"testing"

	"starfish/api"
	"starfish/field"
)

// kinds are fields of all origins, made anew by each call.
func kinds() map[string]*field.Field {
	return map[string]*field.Field{"made by New": field.New(), "nil": nil, "zero": {}}
}

// reference multiplies what the results are compared with; layer 3 has tests of its own.
var reference = field.New()

// of returns a matrix of these sizes and bytes.
func of(rows, cols int, b ...byte) Matrix {
	return Matrix{rows, cols, b}
}

// mixed returns n bytes that follow no plain pattern, the same for the same seed.
func mixed(seed, n int) []byte {
	b := make([]byte, n)
	state := uint32(seed)*2654435761 + 1
	for i := range b {
		state = state*1664525 + 1013904223
		b[i] = byte(state >> 24)
	}
	return b
}

// dense returns a matrix of mixed bytes.
func dense(seed, rows, cols int) Matrix {
	return Matrix{rows, cols, mixed(seed, rows*cols)}
}

// sparse returns a matrix of mixed bytes, two thirds of which are replaced by 0.
func sparse(seed, rows, cols int) Matrix {
	m := dense(seed, rows, cols)
	for i, b := range mixed(seed+1000, rows*cols) {
		if b%3 != 0 {
			m.D[i] = 0
		}
	}
	return m
}

// sampled are matrices of ordinary sizes and without rows or columns, full of zeros or with few, none and all of whose rows depend on others.
func sampled() []Matrix {
	out := []Matrix{of(0, 0), {0, 0, []byte{}}, of(0, 3), of(3, 0), of(1, 1, 0), of(1, 1, 7), of(2, 2, 1, 1, 1, 1), of(2, 2, 0, 1, 1, 0), of(3, 3, 0, 0, 5, 0, 0, 0, 6, 0, 0), of(2, 3, 0, 0, 0, 0, 0, 0), of(3, 2, 1, 2, 2, 4, 4, 8), of(2, 4, 0, 1, 2, 3, 0, 2, 4, 6)}
	for _, size := range [][2]int{{1, 2}, {2, 1}, {2, 2}, {3, 3}, {4, 4}, {2, 4}, {4, 2}, {3, 4}, {4, 3}} {
		for seed := range 3 {
			out = append(out, dense(seed, size[0], size[1]), sparse(seed, size[0], size[1]))
		}
	}
	return out
}

// invalid are matrices whose sizes are out of bounds, or don't fit their bytes.
func invalid() map[string]Matrix {
	return map[string]Matrix{
		"too few bytes": of(2, 2, 1, 2, 3), "too many bytes": of(2, 2, 1, 2, 3, 4, 5), "no bytes": of(1, 1), "bytes without rows": of(0, 1, 1), "bytes without columns": of(1, 0, 1),
		"rows below 0": of(-1, 0), "columns below 0": of(0, -1), "both below 0": of(-1, -1, 1), "rows below 0, with bytes": of(-1, 1, 1),
		"too many rows": of(65537, 0), "too many columns": of(0, 65537), "too many rows, with bytes": {65537, 1, make([]byte, 65537)}, "too many columns, with bytes": {1, 65537, make([]byte, 65537)},
		"the least numbers": of(math.MinInt, math.MinInt), "the greatest numbers": of(math.MaxInt, math.MaxInt, 1), "product 0 modulo 2^64": of(1<<32, 1<<32), "rows far too many": of(math.MaxInt, 0),
	}
}

// product adds up, for each place, the products of the definition.
func product(a, b Matrix) Matrix {
	out := Matrix{a.Rows, b.Cols, make([]byte, a.Rows*b.Cols)}
	for i := range a.Rows {
		for j := range b.Cols {
			for k := range a.Cols {
				out.D[i*b.Cols+j] ^= reference.Mul(a.D[i*a.Cols+k], b.D[k*b.Cols+j])
			}
		}
	}
	return out
}

// determinant expands the part of m in these rows and columns, as many of each, along its first row.
func determinant(m Matrix, rows, cols []int) byte {
	if len(rows) == 0 {
		return 1
	}
	var out byte
	for i, col := range cols {
		others := slices.Delete(slices.Clone(cols), i, i+1)
		out ^= reference.Mul(m.D[rows[0]*m.Cols+col], determinant(m, rows[1:], others))
	}
	return out
}

// choices are all ways to choose k of the first n numbers.
func choices(n, k int) [][]int {
	if k == 0 {
		return [][]int{nil}
	}
	var out [][]int
	for last := k - 1; last < n; last++ {
		for _, c := range choices(last, k-1) {
			out = append(out, append(slices.Clone(c), last))
		}
	}
	return out
}

// minors returns the greatest number of rows of a square part of m whose determinant is not 0.
func minors(m Matrix) int {
	for k := min(m.Rows, m.Cols); k > 0; k-- {
		for _, rows := range choices(m.Rows, k) {
			for _, cols := range choices(m.Cols, k) {
				if determinant(m, rows, cols) != 0 {
					return k
				}
			}
		}
	}
	return 0
}

// want reports a result that is not this matrix, byte by byte, without an error.
func want(t *testing.T, got Matrix, e api.Errno, want Matrix, call string, about ...any) {
	t.Helper()
	if e != api.OK || got.Rows != want.Rows || got.Cols != want.Cols || !bytes.Equal(got.D, want.D) {
		t.Errorf("%s of %v: %v, %d, want %v", call, about, short(got), e, short(want))
	}
}

// wantError reports a result other than this error, beside the matrix that has nothing.
func wantError(t *testing.T, got Matrix, e, want api.Errno, call string, about ...any) {
	t.Helper()
	if e != want || got.Rows != 0 || got.Cols != 0 || len(got.D) != 0 {
		t.Errorf("%s of %v: %v, %d, want the error %d", call, about, short(got), e, want)
	}
}

// short returns m, without most of its bytes, if they are many.
func short(m Matrix) Matrix {
	m.D = m.D[:min(len(m.D), 64)]
	return m
}

// Examples.
func TestExamples(t *testing.T) {
	for name, f := range kinds() {
		p, e := Mul(f, of(2, 2, 1, 2, 0, 1), of(2, 1, 3, 4))
		want(t, p, e, of(2, 1, 11, 4), "Mul", name)
		if r, e := Rank(f, of(2, 2, 1, 1, 1, 1)); r != 1 || e != api.OK {
			t.Errorf("%s: Rank = %d, %d", name, r, e)
		}
		v, e := Inverse(f, of(2, 2, 1, 1, 1, 1))
		wantError(t, v, e, api.ErrRank, "Inverse", name)
		v, e = Inverse(f, of(2, 2, 1, 1, 0, 1))
		want(t, v, e, of(2, 2, 1, 1, 0, 1), "Inverse", name)
		want(t, Powers(f, []byte{1, 2}, 3), api.OK, of(2, 3, 1, 1, 1, 1, 2, 4), "Powers", name)
		s, e := Symmetric(2, []byte{1, 2, 3})
		want(t, s, e, of(2, 2, 1, 2, 2, 3), "Symmetric", name)
		x, e := Solve(f, of(2, 1, 1, 1), of(2, 1, 5, 5))
		want(t, x, e, of(1, 1, 5), "Solve", name)
		x, e = Solve(f, of(2, 1, 1, 1), of(2, 1, 5, 6))
		wantError(t, x, e, api.ErrRank, "Solve", name)
	}
}

// P5.1: sizes from 0 to 65536, and as many bytes as their product.
func TestRight(t *testing.T) {
	valid := append(sampled(), of(65536, 0), of(0, 65536), Matrix{65536, 1, make([]byte, 65536)}, Matrix{1, 65536, make([]byte, 65536)}, Matrix{65536, 16, make([]byte, 1<<20)})
	for _, m := range valid {
		if !Right(m) {
			t.Errorf("%d rows of %d, %d bytes: not valid", m.Rows, m.Cols, len(m.D))
		}
	}
	for name, m := range invalid() {
		if Right(m) {
			t.Errorf("%s: valid", name)
		}
	}
	for size := range 8 {
		for n := range 64 {
			if got := Right(Matrix{size, 7, make([]byte, n)}); got != (n == 7*size) {
				t.Errorf("%d rows of 7, %d bytes: %v", size, n, got)
			}
		}
	}
}

// P5.2: 1 on the diagonal, from no rows up to the limit, and nothing on both sides of that.
func TestOne(t *testing.T) {
	for _, n := range []int{0, 1, 2, 3, 17, 255, 4095, 4096} {
		m := One(n)
		if m.Rows != n || m.Cols != n || len(m.D) != n*n {
			t.Fatalf("One(%d): %d rows of %d, %d bytes", n, m.Rows, m.Cols, len(m.D))
		}
		for i := range n {
			if m.D[i*n+i] != 1 {
				t.Fatalf("One(%d): %d on the diagonal, in row %d", n, m.D[i*n+i], i)
			}
		}
		if zeros := bytes.Count(m.D, []byte{0}); zeros != n*n-n {
			t.Errorf("One(%d): %d zeros", n, zeros)
		}
	}
	for _, n := range []int{-1, -2, math.MinInt, 4097, 65536, math.MaxInt} {
		wantError(t, One(n), api.OK, api.OK, "One", n)
	}
}

// P5.3: the product of the definition, for all pairs that fit; ErrSize for others.
func TestMul(t *testing.T) {
	for name, f := range kinds() {
		for _, a := range sampled() {
			for _, b := range sampled() {
				p, e := Mul(f, a, b)
				if a.Cols != b.Rows {
					wantError(t, p, e, api.ErrSize, "Mul", name, a, b)
					continue
				}
				want(t, p, e, product(a, b), "Mul", name, a, b)
			}
		}
	}
}

// P5.3: the same for sizes at which the same factors come back often, and for rows that are long.
func TestMulOfLarger(t *testing.T) {
	for name, f := range kinds() {
		for _, size := range [][3]int{{5, 60, 7}, {40, 40, 40}, {3, 9, 700}, {300, 2, 300}, {1, 1000, 1}, {90, 80, 1}} {
			for _, a := range []Matrix{dense(1, size[0], size[1]), sparse(2, size[0], size[1])} {
				b := dense(3, size[1], size[2])
				p, e := Mul(f, a, b)
				want(t, p, e, product(a, b), "Mul", name, size)
			}
		}
		a := of(2, 3, 9, 9, 9, 0, 9, 9) // one factor only
		b := dense(4, 3, 1000)
		p, e := Mul(f, a, b)
		want(t, p, e, product(a, b), "Mul", name)
	}
}

// P5.3: no rows, no columns; the limit of the product, and one past it.
func TestMulAtTheLimit(t *testing.T) {
	for _, x := range []struct {
		a, b Matrix
		e    api.Errno
	}{
		{of(1, 0), of(0, 2), api.OK}, {of(0, 1), of(1, 2, 1, 2), api.OK}, {of(2, 1, 1, 2), of(1, 0), api.OK}, {of(0, 0), of(0, 0), api.OK}, {of(65536, 0), of(0, 256), api.OK},
		{of(256, 0), of(0, 65536), api.OK}, {of(65536, 0), of(0, 257), api.ErrSize}, {of(257, 0), of(0, 65536), api.ErrSize}, {of(65536, 0), of(0, 65536), api.ErrSize},
		{of(0, 65536), of(65536, 0), api.OK}, {dense(1, 4096, 1), dense(2, 1, 4096), api.OK}, {dense(1, 4096, 1), dense(2, 1, 4097), api.ErrSize}, {dense(1, 4097, 1), dense(2, 1, 4096), api.ErrSize},
	} {
		p, e := Mul(reference, x.a, x.b)
		if x.e != api.OK {
			wantError(t, p, e, x.e, "Mul", x.a.Rows, x.a.Cols, x.b.Cols)
			continue
		}
		want(t, p, e, product(x.a, x.b), "Mul", x.a.Rows, x.a.Cols, x.b.Cols)
	}
}

// All calls that are passed matrices: those that are not valid, also beside one that is.
func TestInvalidMatrices(t *testing.T) {
	for field, f := range kinds() {
		for name, m := range invalid() {
			for _, other := range []Matrix{of(1, 1, 1), of(2, 2, 1, 2, 3, 4), of(0, 0), m} {
				p, e := Mul(f, m, other)
				wantError(t, p, e, api.ErrSize, "Mul, on the left,", field, name)
				p, e = Mul(f, other, m)
				wantError(t, p, e, api.ErrSize, "Mul, on the right,", field, name)
				x, e := Solve(f, m, other)
				wantError(t, x, e, api.ErrSize, "Solve, on the left,", field, name)
				x, e = Solve(f, other, m)
				wantError(t, x, e, api.ErrSize, "Solve, on the right,", field, name)
			}
			u, e := Turned(m)
			wantError(t, u, e, api.ErrSize, "Turned", name)
			for _, picked := range [][]int{nil, {0}, {-1}, {5, 0}} {
				p, e := Pick(m, picked...)
				wantError(t, p, e, api.ErrSize, "Pick", name, picked)
			}
			if r, e := Rank(f, m); r != 0 || e != api.ErrSize {
				t.Errorf("Rank, %s: %d, %d", name, r, e)
			}
			v, e := Inverse(f, m)
			wantError(t, v, e, api.ErrSize, "Inverse", name)
			if b, e := Packed(m); len(b) != 0 || e != api.ErrSize {
				t.Errorf("Packed, %s: %v, %d", name, b, e)
			}
		}
	}
}

// P5.4: what is in row i, column j, comes in row j, column i.
func TestTurned(t *testing.T) {
	for _, m := range append(sampled(), of(65536, 0), of(0, 65536), dense(1, 65536, 3), dense(2, 3, 65536), dense(3, 70, 130)) {
		turned := Matrix{m.Cols, m.Rows, make([]byte, len(m.D))}
		for i := range m.Rows {
			for j := range m.Cols {
				turned.D[j*m.Rows+i] = m.D[i*m.Cols+j]
			}
		}
		u, e := Turned(m)
		want(t, u, e, turned, "Turned", short(m))
	}
	u, e := Turned(of(2, 3, 1, 2, 3, 4, 5, 6))
	want(t, u, e, of(3, 2, 1, 4, 2, 5, 3, 6), "Turned")
}

// P5.5: rows in the order in which they are picked, none, all, and some twice.
func TestPick(t *testing.T) {
	m := of(3, 2, 1, 2, 3, 4, 5, 6)
	for _, x := range []struct {
		rows []int
		want Matrix
	}{
		{nil, of(0, 2)}, {[]int{}, of(0, 2)}, {[]int{0}, of(1, 2, 1, 2)}, {[]int{2}, of(1, 2, 5, 6)}, {[]int{2, 0}, of(2, 2, 5, 6, 1, 2)}, {[]int{0, 1, 2}, m},
		{[]int{1, 1}, of(2, 2, 3, 4, 3, 4)}, {[]int{0, 2, 0, 2, 0}, of(5, 2, 1, 2, 5, 6, 1, 2, 5, 6, 1, 2)},
	} {
		p, e := Pick(m, x.rows...)
		want(t, p, e, x.want, "Pick", x.rows)
	}
	p, e := Pick(of(3, 0), 2, 2, 1, 0)
	want(t, p, e, of(4, 0), "Pick, without columns")
	p, e = Pick(of(0, 5))
	want(t, p, e, of(0, 5), "Pick, without rows")
}

// P5.5: indices that are none of a row, among others.
func TestPickWrongRows(t *testing.T) {
	m := of(3, 2, 1, 2, 3, 4, 5, 6)
	for _, rows := range [][]int{{-1}, {3}, {0, -1}, {2, 3}, {3, 0}, {math.MinInt}, {math.MaxInt}, {0, 1, 2, 1 << 32}, {0, -1 << 32}} {
		p, e := Pick(m, rows...)
		wantError(t, p, e, api.ErrArg, "Pick", rows)
	}
	for _, m := range []Matrix{of(0, 0), of(0, 5)} {
		p, e := Pick(m, 0)
		wantError(t, p, e, api.ErrArg, "Pick, without rows,", m)
	}
}

// P5.5: as many rows as a matrix may have, of as many bytes as may be picked, and one past each, which is told before a wrong index.
func TestPickAtTheLimit(t *testing.T) {
	for _, x := range []struct {
		cols, count int
		e           api.Errno
	}{{0, 65536, api.OK}, {0, 65537, api.ErrSize}, {1, 65536, api.OK}, {1, 65537, api.ErrSize}, {256, 65536, api.OK}, {257, 65536, api.ErrSize}, {65536, 256, api.OK}, {65536, 257, api.ErrSize}, {4096, 4097, api.ErrSize}} {
		m := dense(1, 1, x.cols)
		rows := make([]int, x.count)
		p, e := Pick(m, rows...)
		if x.e == api.OK {
			want(t, p, e, Matrix{x.count, x.cols, bytes.Repeat(m.D, x.count)}, "Pick", x)
			continue
		}
		wantError(t, p, e, api.ErrSize, "Pick", x)
		rows[0] = -1
		p, e = Pick(m, rows...)
		wantError(t, p, e, api.ErrSize, "Pick, with a wrong index,", x)
	}
}

// P5.6: the rank of the definition, by the determinants of all parts.
func TestRank(t *testing.T) {
	for name, f := range kinds() {
		for _, m := range sampled() {
			if r, e := Rank(f, m); r != minors(m) || e != api.OK {
				t.Errorf("%s: Rank(%v) = %d, %d, want %d", name, m, r, e, minors(m))
			}
		}
		for i := range 2000 { // few elements, so that many rows depend on others
			m := of(3, 3)
			for place := range 9 {
				m.D = append(m.D, mixed(i, 9)[place]>>6)
			}
			if r, e := Rank(f, m); r != minors(m) || e != api.OK {
				t.Errorf("%s: Rank(%v) = %d, %d, want %d", name, m, r, e, minors(m))
			}
		}
	}
}

// P5.6: larger matrices, whose rank is known from what they are the product of.
func TestRankOfLarger(t *testing.T) {
	for name, f := range kinds() {
		for _, x := range [][3]int{{20, 30, 0}, {20, 30, 1}, {20, 30, 19}, {20, 30, 20}, {30, 20, 7}, {30, 20, 20}, {200, 3, 2}, {3, 900, 2}, {100, 100, 99}} {
			xs := make([]byte, x[0])
			for i := range xs {
				xs[i] = byte(i + 1)
			}
			ys := make([]byte, x[2])
			for i := range ys {
				ys[i] = byte(i + 1)
			}
			m := product(Powers(nil, xs, x[2]), Powers(nil, ys, x[1]))
			if r, e := Rank(f, m); r != x[2] || e != api.OK {
				t.Errorf("%s: Rank of %d rows of %d = %d, %d, want %d", name, x[0], x[1], r, e, x[2])
			}
		}
		for _, x := range []struct {
			m    Matrix
			want int
		}{{of(65536, 0), 0}, {of(0, 65536), 0}, {Matrix{65536, 2, make([]byte, 1<<17)}, 0}, {dense(1, 65536, 2), 2}, {dense(1, 2, 65536), 2}, {Matrix{2, 65536, append(make([]byte, 1<<17-1), 1)}, 1}, {One(300), 300}} {
			if r, e := Rank(f, x.m); r != x.want || e != api.OK {
				t.Errorf("%s: Rank of %d rows of %d = %d, %d, want %d", name, x.m.Rows, x.m.Cols, r, e, x.want)
			}
		}
	}
}

// solutions returns the matrices of one column whose product with a, of at most two columns, is b, by trying all.
func solutions(a, b Matrix) []Matrix {
	count := 1 << (8 * a.Cols)
	var out []Matrix
	for n := range count {
		x := Matrix{a.Cols, 1, []byte{byte(n), byte(n >> 8)}[:a.Cols]}
		if bytes.Equal(product(a, x).D, b.D) {
			out = append(out, x)
		}
	}
	return out
}

// P5.7: exactly one of all matrices is the solution, otherwise ErrRank.
func TestSolve(t *testing.T) {
	f := field.New()
	for i := range 240 {
		rows, cols := i%4, i/4%3
		a, b := Matrix{rows, cols, nil}, Matrix{rows, 1, nil}
		for place := range rows * cols {
			a.D = append(a.D, mixed(i, rows*cols)[place]>>7)
		}
		for place := range rows {
			b.D = append(b.D, mixed(i+500, rows)[place]>>7)
		}
		x, e := Solve(f, a, b)
		if all := solutions(a, b); len(all) == 1 {
			want(t, x, e, all[0], "Solve", a, b)
		} else {
			wantError(t, x, e, api.ErrRank, "Solve", a, b, len(all))
		}
	}
}

// P5.7: some systems whose solution is known, with and without rows and columns.
func TestSolveOfKnown(t *testing.T) {
	for name, f := range kinds() {
		for _, x := range []struct{ a, b, want Matrix }{
			{of(2, 2, 0, 1, 1, 0), of(2, 2, 1, 2, 3, 4), of(2, 2, 3, 4, 1, 2)}, {of(2, 2, 2, 0, 0, 2), of(2, 1, 2, 29), of(2, 1, 1, 128)}, {of(1, 1, 7), of(1, 3, 7, 0, 9), of(1, 3, 1, 0, 3)},
			{of(3, 1, 0, 0, 2), of(3, 1, 0, 0, 29), of(1, 1, 128)}, {of(4, 2, 0, 0, 0, 2, 0, 0, 3, 0), of(4, 1, 0, 29, 0, 9), of(2, 1, 7, 128)}, {of(3, 2, 1, 1, 1, 2, 1, 4), of(3, 1, 3, 0, 6), of(2, 1, 2, 1)},
			{of(0, 0), of(0, 0), of(0, 0)}, {of(0, 0), of(0, 5), of(0, 5)}, {of(3, 0), of(3, 0), of(0, 0)}, {of(3, 0), of(3, 2, 0, 0, 0, 0, 0, 0), of(0, 2)}, {of(2, 2, 1, 0, 1, 1), of(2, 0), of(2, 0)}, {of(2, 1, 0, 9), of(2, 0), of(1, 0)}, {of(65536, 0), of(65536, 0), of(0, 0)},
		} {
			got, e := Solve(f, x.a, x.b)
			want(t, got, e, x.want, "Solve", name, x.a, x.b)
		}
	}
}

// P5.7: no solution, more than one, and a rank that is too low where there is nothing to be solved.
func TestSolveOfNone(t *testing.T) {
	for name, f := range kinds() {
		for _, x := range [][2]Matrix{
			{of(1, 2, 1, 1), of(1, 1, 5)}, {of(0, 1), of(0, 1)}, {of(0, 1), of(0, 0)}, {of(0, 65536), of(0, 3)}, {of(1, 1, 0), of(1, 1, 0)}, {of(1, 1, 0), of(1, 1, 1)}, {of(2, 2, 1, 1, 1, 1), of(2, 1, 3, 3)}, {of(2, 2, 1, 1, 1, 1), of(2, 1, 3, 4)},
			{of(2, 2, 1, 1, 1, 1), of(2, 0)}, {of(1, 2, 1, 0), of(1, 0)}, {of(2, 1, 0, 0), of(2, 0)}, {of(3, 3, 1, 2, 3, 2, 4, 6, 0, 0, 1), of(3, 0)},
			{of(3, 0), of(3, 1, 0, 0, 1)}, {of(1, 0), of(1, 3, 0, 7, 0)}, {of(3, 1, 1, 1, 1), of(3, 2, 5, 6, 5, 6, 5, 7)}, {of(3, 1, 0, 1, 0), of(3, 1, 1, 1, 0)}, {of(3, 2, 1, 0, 0, 1, 0, 0), of(3, 2, 1, 2, 3, 4, 1, 0)},
		} {
			got, e := Solve(f, x[0], x[1])
			wantError(t, got, e, api.ErrRank, "Solve", name, x[0], x[1])
		}
		for _, x := range [][2]Matrix{{of(1, 1, 1), of(2, 1, 1, 1)}, {of(2, 1, 1, 1), of(1, 1, 1)}, {of(1, 0), of(0, 0)}, {of(0, 0), of(1, 0)}, {of(2, 3, 1, 2, 3, 4, 5, 6), of(3, 2, 1, 2, 3, 4, 5, 6)}, {of(1, 2, 1, 1), of(2, 0)}} {
			got, e := Solve(f, x[0], x[1])
			wantError(t, got, e, api.ErrSize, "Solve", name, x[0], x[1])
		}
	}
}

// P5.7: larger systems, also with more rows than are needed, of which any one that is changed leaves no solution.
func TestSolveOfLarger(t *testing.T) {
	for name, f := range kinds() {
		for _, size := range [][3]int{{4, 4, 1}, {9, 4, 2}, {60, 60, 3}, {100, 40, 30}, {255, 20, 1}, {3, 2, 900}} {
			xs := make([]byte, size[0])
			for i := range xs {
				xs[i] = byte(i*7 + 3)
			}
			a := Powers(nil, xs, size[1])
			x := dense(size[2], size[1], size[2])
			b := product(a, x)
			got, e := Solve(f, a, b)
			want(t, got, e, x, "Solve", name, size)
			if size[0] == size[1] {
				continue
			}
			for _, row := range []int{0, size[1], size[0] - 1} {
				wrong := Matrix{b.Rows, b.Cols, slices.Clone(b.D)}
				wrong.D[row*b.Cols+b.Cols-1] ^= 1
				got, e := Solve(f, a, wrong)
				wantError(t, got, e, api.ErrRank, "Solve, changed,", name, size, row)
			}
		}
	}
}

// P5.8: the product with the inverse, on both sides, is One; there is an inverse exactly if the determinant is not 0.
func TestInverse(t *testing.T) {
	for name, f := range kinds() {
		for _, m := range append(sampled(), dense(1, 50, 50), sparse(2, 60, 60)) {
			v, e := Inverse(f, m)
			switch {
			case m.Rows != m.Cols:
				wantError(t, v, e, api.ErrSize, "Inverse", name, m)
			case m.Rows < 5 && minors(m) < m.Rows:
				wantError(t, v, e, api.ErrRank, "Inverse", name, m)
			default:
				want(t, product(m, v), e, One(m.Rows), "Inverse, times it,", name, m)
				want(t, product(v, m), e, One(m.Rows), "Inverse, it times,", name, m)
				if !Right(v) {
					t.Errorf("Inverse of %v: %v is not valid", m, v)
				}
			}
		}
	}
}

// P5.8: all matrices of one element, and of two rows of few elements.
func TestInverseOfSmall(t *testing.T) {
	f := field.New()
	for a := range 256 {
		v, e := Inverse(f, of(1, 1, byte(a)))
		if want, ok := reference.Inv(byte(a)); ok != (e == api.OK) || ok && v.D[0] != want {
			t.Errorf("Inverse of %d: %v, %d", a, v, e)
		}
	}
	for n := range 6 * 6 * 6 * 6 {
		m := of(2, 2, byte(n%6), byte(n/6%6), byte(n/36%6), byte(n/216))
		v, e := Inverse(f, m)
		if determinant(m, []int{0, 1}, []int{0, 1}) == 0 {
			wantError(t, v, e, api.ErrRank, "Inverse", m)
			continue
		}
		want(t, product(m, v), e, One(2), "Inverse", m)
	}
}

// P5.8: the limit, and one past it, with an inverse or without.
func TestInverseAtTheLimit(t *testing.T) {
	one := One(4096)
	v, e := Inverse(nil, one)
	want(t, v, e, one, "Inverse", 4096)
	one.D[len(one.D)-1] = 0
	v, e = Inverse(nil, one)
	wantError(t, v, e, api.ErrRank, "Inverse", 4096)
	v, e = Inverse(nil, Matrix{4097, 4097, make([]byte, 4097*4097)})
	wantError(t, v, e, api.ErrSize, "Inverse", 4097)
	v, e = Inverse(nil, of(65536, 0))
	wantError(t, v, e, api.ErrSize, "Inverse", 65536)
}

// P5.9: the powers of the definition, for none, one, some, and all elements.
func TestPowers(t *testing.T) {
	every := make([]byte, 256)
	for i := range every {
		every[i] = byte(i)
	}
	for name, f := range kinds() {
		for _, xs := range [][]byte{nil, {}, {0}, {1}, {2, 2}, {5, 0, 255}, every} {
			for _, cols := range []int{0, 1, 2, 3, 10, 300} {
				expected := Matrix{len(xs), cols, nil}
				for _, x := range xs {
					for n := range cols {
						expected.D = append(expected.D, reference.Pow(x, n))
					}
				}
				want(t, Powers(f, xs, cols), api.OK, expected, "Powers", name, xs, cols)
			}
		}
	}
}

// P5.9: too many elements count as none; too many or too few columns, or bytes in all, give none.
func TestPowersAtTheLimits(t *testing.T) {
	for _, x := range []struct{ count, cols, wantRows, wantCols int }{
		{65536, 0, 65536, 0}, {65536, 1, 65536, 1}, {65536, 256, 65536, 256}, {65536, 257, 65536, 0}, {256, 65536, 256, 65536}, {257, 65536, 257, 0}, {4096, 4096, 4096, 4096}, {4096, 4097, 4096, 0},
		{65537, 0, 0, 0}, {65537, 5, 0, 5}, {65537, 65536, 0, 65536}, {65537, 65537, 0, 0}, {1 << 20, 3, 0, 3}, {65537, -1, 0, 0},
		{3, -1, 3, 0}, {3, math.MinInt, 3, 0}, {3, 65536, 3, 65536}, {3, 65537, 3, 0}, {3, math.MaxInt, 3, 0}, {0, -1, 0, 0}, {0, 65536, 0, 65536}, {0, 65537, 0, 0}, {2, 1 << 62, 2, 0}, {4, 1 << 62, 4, 0},
	} {
		m := Powers(reference, make([]byte, x.count), x.cols)
		if m.Rows != x.wantRows || m.Cols != x.wantCols || len(m.D) != x.wantRows*x.wantCols {
			t.Errorf("Powers of %d, %d columns: %d rows of %d, %d bytes", x.count, x.cols, m.Rows, m.Cols, len(m.D))
		}
		if ones := bytes.Count(m.D, []byte{1}); x.wantCols > 0 && ones != x.wantRows {
			t.Errorf("Powers of %d zeros, %d columns: %d ones", x.count, x.cols, ones)
		}
	}
}

// P5.10: the bytes from the diagonal on, row by row, on both sides of it.
func TestSymmetric(t *testing.T) {
	for _, x := range []struct {
		n    int
		b    []byte
		want Matrix
	}{{0, nil, of(0, 0)}, {0, []byte{}, of(0, 0)}, {1, []byte{7}, of(1, 1, 7)}, {2, []byte{1, 0, 3}, of(2, 2, 1, 0, 0, 3)}, {3, []byte{1, 2, 3, 4, 5, 6}, of(3, 3, 1, 2, 3, 2, 4, 5, 3, 5, 6)}, {4, []byte{1, 2, 3, 4, 5, 6, 7, 8, 9, 10}, of(4, 4, 1, 2, 3, 4, 2, 5, 6, 7, 3, 6, 8, 9, 4, 7, 9, 10)}} {
		m, e := Symmetric(x.n, x.b)
		want(t, m, e, x.want, "Symmetric", x.n, x.b)
		b, e := Packed(x.want)
		if !bytes.Equal(b, x.b) || e != api.OK {
			t.Errorf("Packed(%v) = %v, %d, want %v", x.want, b, e, x.b)
		}
	}
	for n, length := range map[int]int{-1: 0, -2: 1, -3: 3, math.MinInt: 0, math.MaxInt: 0, 65537: 0, 65536: 0, 1 << 32: 0, 1<<32 - 1: 0, 0: 1, 1: 0, 2: 4, 3: 5, 4: 9, 5: 25} {
		m, e := Symmetric(n, make([]byte, length))
		wantError(t, m, e, api.ErrSize, "Symmetric", n, length)
	}
}

// P5.10: matrices that are not symmetric, by one byte or by their sizes, are not packed.
func TestPacked(t *testing.T) {
	for _, m := range append(sampled(), of(65536, 0), of(0, 65536), of(1, 2, 5, 5), of(3, 1, 5, 5, 5)) {
		symmetric := m.Rows == m.Cols
		var upper []byte
		for i := 0; symmetric && i < m.Rows; i++ {
			upper = append(upper, m.D[i*m.Cols+i:(i+1)*m.Cols]...)
			for j := range i {
				symmetric = symmetric && m.D[i*m.Cols+j] == m.D[j*m.Cols+i]
			}
		}
		b, e := Packed(m)
		if symmetric && (!bytes.Equal(b, upper) || e != api.OK) || !symmetric && (len(b) != 0 || e != api.ErrSize) {
			t.Errorf("Packed(%v) = %v, %d; symmetric: %v", m, b, e, symmetric)
		}
	}
	for place := range 25 {
		m, _ := Symmetric(5, mixed(3, 15))
		m.D[place] ^= 9
		b, e := Packed(m)
		if diagonal := place/5 == place%5; diagonal && (len(b) != 15 || e != api.OK) || !diagonal && (len(b) != 0 || e != api.ErrSize) {
			t.Errorf("Packed, changed at %d: %v, %d", place, b, e)
		}
	}
}

// P5.11: sizes and bytes, of matrices that are valid or not.
func TestSame(t *testing.T) {
	every := slices.Concat(sampled(), []Matrix{of(1, 4, 1, 2, 3, 4), of(4, 1, 1, 2, 3, 4), of(2, 2, 1, 2, 3, 4), of(2, 2, 1, 2, 3, 5), of(2, 2, 1, 2, 3), of(-1, -1), of(2, 1, 1, 2, 3, 4), of(1, 2, 1, 2, 3, 4)})
	for _, m := range invalid() {
		every = append(every, m)
	}
	for _, a := range every {
		if !Same(a, Matrix{a.Rows, a.Cols, slices.Clone(a.D)}) {
			t.Errorf("%v is not the same as itself", short(a))
		}
		for _, b := range every {
			equal := a.Rows == b.Rows && a.Cols == b.Cols && string(a.D) == string(b.D)
			if Same(a, b) != equal {
				t.Errorf("Same(%v, %v) = %v", short(a), short(b), !equal)
			}
		}
	}
	if !Same(Matrix{0, 2, nil}, Matrix{0, 2, []byte{}}) {
		t.Error("no bytes are not the same as an empty list")
	}
}

// results makes each call that returns lists with these arguments, and returns them.
func results(f *field.Field, a, b Matrix, xs []byte) []Matrix {
	var out []Matrix
	add := func(m Matrix, _ api.Errno) { out = append(out, m) }
	add(Mul(f, a, b))
	add(Mul(f, One(a.Rows), a))
	add(Mul(f, a, One(a.Cols)))
	add(Turned(a))
	add(Turned(b))
	add(Pick(a, 0))
	add(Pick(a, upTo(a.Rows)...))
	add(Solve(f, a, b))
	add(Solve(f, One(b.Rows), b))
	add(Inverse(f, a))
	add(Symmetric(2, xs))
	add(Symmetric(1, xs[:1]))
	add(One(2), api.OK)
	add(One(2), api.OK)
	add(Powers(f, xs, 2), api.OK)
	packed, _ := Packed(b)
	return append(out, Matrix{1, len(packed), packed})
}

// listArguments are pairs that fit each other, with an inverse or none, symmetric or not, and without rows or columns.
func listArguments() [][2]Matrix {
	return [][2]Matrix{{of(2, 2, 1, 2, 3, 4), of(2, 2, 5, 6, 6, 7)}, {of(2, 2, 0, 2, 3, 0), of(2, 2, 1, 0, 0, 1)}, {of(1, 1, 1), of(1, 1, 1)}, {One(2), One(2)}, {of(2, 2, 1, 1, 1, 1), of(2, 2, 9, 8, 8, 9)}, {of(3, 3, 1, 2, 3, 0, 5, 6, 0, 0, 9), dense(5, 3, 2)}, {of(1, 0), of(0, 1)}}
}

// roomy returns m, cut out of memory that goes on after it.
func roomy(m Matrix) Matrix {
	m.D = append(slices.Clone(m.D), bytes.Repeat([]byte{77}, 20)...)[:len(m.D)]
	return m
}

// P5.12: arguments are only read, with what is after their length in their memory; the same call returns the same again.
func TestArgumentsStay(t *testing.T) {
	for name, f := range kinds() {
		for _, x := range listArguments() {
			a, b := roomy(x[0]), roomy(x[1])
			memory := []byte{4, 5, 6, 77, 77, 77}
			expected := results(field.New(), x[0], x[1], []byte{4, 5, 6})
			rows := []int{0, 0, 77, 77}
			for range 2 {
				for i, got := range results(f, a, b, memory[:3]) {
					want(t, got, api.OK, expected[i], "result", name, i, x)
				}
				Rank(f, a)
				Rank(f, b)
				Pick(a, rows[:2]...)
				for i, m := range []Matrix{a, b} {
					if !bytes.Equal(m.D[:cap(m.D)][:len(m.D)+20], append(slices.Clone(x[i].D), bytes.Repeat([]byte{77}, 20)...)) {
						t.Errorf("%s: argument %d is now %v, and was %v", name, i, m.D[:cap(m.D)], x[i])
					}
				}
				if !bytes.Equal(memory, []byte{4, 5, 6, 77, 77, 77}) || !slices.Equal(rows, []int{0, 0, 77, 77}) {
					t.Errorf("%s: arguments are now %v, %v", name, memory, rows)
				}
			}
		}
	}
}

// P5.12: no result shares memory with an argument, or with another result, up to the end of its memory; all are valid.
func TestResultsAreNewMemory(t *testing.T) {
	for name, f := range kinds() {
		for _, x := range listArguments() {
			a, b, xs := roomy(x[0]), roomy(x[1]), []byte{4, 5, 6, 77, 77}[:3]
			got := results(f, a, b, xs)
			expected := results(f, a, b, xs)
			for i := range got {
				if !Right(got[i]) {
					t.Errorf("%s, %v: result %d is not valid: %v", name, x, i, got[i])
				}
				for j := range got[i].D[:cap(got[i].D)] {
					got[i].D[:cap(got[i].D)][j] = 211
				}
				for j := i + 1; j < len(got); j++ {
					want(t, got[j], api.OK, expected[j], "another result", name, i, j, x)
				}
				for _, memory := range [][]byte{a.D, b.D, xs} {
					if slices.Contains(memory[:cap(memory)], 211) {
						t.Errorf("%s, %v: result %d shares memory with an argument", name, x, i)
					}
				}
			}
		}
	}
}

// Ways: none of the rows that are cut out grows into the next one.
func TestRowsDoNotGrow(t *testing.T) {
	m := of(3, 2, 1, 2, 3, 4, 5, 6)
	var seen []int
	for i, row := range rows(m, 2, 0, 0, 1) {
		seen = append(seen, i)
		if !bytes.Equal(row, m.D[2*i:2*i+2]) {
			t.Errorf("row %d: %v", i, row)
		}
		if row = append(row, 99); bytes.Contains(m.D, []byte{99}) {
			t.Errorf("row %d has grown into the next one", i)
		}
		if len(seen) == 3 {
			break
		}
	}
	if !slices.Equal(seen, []int{2, 0, 0}) {
		t.Errorf("rows %v were visited", seen)
	}
}

// P5.13: multiplication is associative, and the transpose of a product is the product of the transposes, in the other order.
func TestLaws(t *testing.T) {
	f := field.New()
	for _, a := range sampled() {
		for _, b := range sampled() {
			if a.Cols != b.Rows {
				continue
			}
			ab, _ := Mul(f, a, b)
			turned, _ := Turned(ab)
			at, _ := Turned(a)
			bt, _ := Turned(b)
			p, e := Mul(f, bt, at)
			want(t, p, e, turned, "the product of the transposes", a, b)
			for _, c := range sampled() {
				if b.Cols != c.Rows {
					continue
				}
				bc, _ := Mul(f, b, c)
				left, _ := Mul(f, ab, c)
				right, e := Mul(f, a, bc)
				want(t, right, e, left, "a (b c)", a, b, c)
			}
		}
	}
}

// P5.13: rows of Powers for different elements, as many as columns, have an inverse; with one that is there twice they have none.
func TestPowersHaveAnInverse(t *testing.T) {
	f := field.New()
	for _, n := range []int{0, 1, 2, 3, 7, 40, 256} {
		for _, step := range []int{1, 3, 101} {
			xs := make([]byte, n)
			for i := range xs {
				xs[i] = byte(i*step + 5)
			}
			m := Powers(f, xs, n)
			v, e := Inverse(f, m)
			if p, _ := Mul(f, m, v); e != api.OK || !Same(p, One(n)) {
				t.Errorf("Powers of %d elements, step %d: no inverse, %d", n, step, e)
			}
			if n > 1 {
				xs[n-1] = xs[0]
				v, e := Inverse(f, Powers(f, xs, n))
				wantError(t, v, e, api.ErrRank, "Inverse of Powers", n, step)
			}
		}
	}
}

// P5.13: what is packed gives the same symmetric matrix, and the other way round.
func TestPackedGivesTheSame(t *testing.T) {
	for _, n := range []int{0, 1, 2, 3, 10, 77, 300} {
		b := mixed(n, n*(n+1)/2)
		m, e := Symmetric(n, b)
		turned, _ := Turned(m)
		want(t, turned, e, m, "the transpose of Symmetric", n)
		packed, e := Packed(m)
		if !bytes.Equal(packed, b) || e != api.OK {
			t.Errorf("Packed of Symmetric, %d rows: error %d", n, e)
		}
		again, e := Symmetric(n, packed)
		want(t, again, e, m, "Symmetric of Packed", n)
	}
}
