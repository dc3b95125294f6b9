package poly

import (
	"bytes"
	"slices"
	"testing"

	"starfish/api"
	"starfish/field"
)

// kinds are fields of all origins, made anew by each call.
func kinds() map[string]*field.Field {
	return map[string]*field.Field{"made by New": field.New(), "nil": nil, "zero": {}}
}

// reference multiplies what the results are compared with; layer 3 has tests of its own.
var reference = field.New()

// top searches the greatest power whose coefficient is not 0; -1, if there is none.
func top(a []byte) int {
	out := -1
	for i, c := range a {
		if c != 0 {
			out = i
		}
	}
	return out
}

// plain returns a in new memory, trimmed.
func plain(a []byte) []byte {
	out := make([]byte, top(a)+1)
	copy(out, a)
	return out
}

// sum adds coefficient by coefficient.
func sum(a, b []byte) []byte {
	out := make([]byte, len(a)+len(b))
	copy(out, a)
	for i, c := range b {
		out[i] ^= c
	}
	return plain(out)
}

// product adds up the products of all pairs of coefficients.
func product(a, b []byte) []byte {
	out := make([]byte, len(a)+len(b))
	for i, c := range a {
		for j, d := range b {
			out[i+j] ^= reference.Mul(c, d)
		}
	}
	return plain(out)
}

// value adds up the coefficients, each times its power of x.
func value(a []byte, x byte) byte {
	power, out := byte(1), byte(0)
	for _, c := range a {
		out ^= reference.Mul(c, power)
		power = reference.Mul(power, x)
	}
	return out
}

// mixed returns n bytes that follow no plain pattern, the same for the same seed.
func mixed(seed, n int) []byte {
	b := make([]byte, n)
	state := uint32(seed)*2654435761 + 1
	for i := range b {
		state = state*1664525 + 1013904223
		b[i] = byte(state >> 24)
	}
	return b
}

// samples are polynomials of ordinary degrees, 0 in all its forms, constants, single powers, and lists that are not trimmed, or have zeros inside.
func samples() [][]byte {
	out := [][]byte{nil, {}, {0}, {0, 0, 0}, {1}, {5}, {255}, {1, 0}, {0, 1}, {0, 1, 0, 0}, {1, 1}, {2, 1}, {0, 0, 0, 7}, {1, 0, 0, 0, 1}, {3, 0, 0, 200, 0, 0, 0}, {255, 255, 255}}
	for n := 1; n <= 12; n++ {
		out = append(out, mixed(n, n), append(mixed(100+n, n), 0, 0))
	}
	return append(out, mixed(9, 60), append(mixed(10, 40), make([]byte, 30)...))
}

// points returns n different elements in no plain order, the same for the same seed.
func points(seed, n int) []byte {
	all := make([]byte, 256)
	for i := range all {
		all[i] = byte(i)
	}
	for i, c := range mixed(seed, 256) {
		all[i], all[c] = all[c], all[i]
	}
	return all[:n]
}

// want reports a result that is not exactly these bytes.
func want(t *testing.T, got, want []byte, call string, about ...any) {
	t.Helper()
	if !bytes.Equal(got, want) {
		t.Errorf("%s of %v: %v, want %v", call, about, got, want)
	}
}

// Examples.
func TestExamples(t *testing.T) {
	for name, f := range kinds() {
		want(t, Add([]byte{1, 2, 3}, []byte{1, 0, 3}), []byte{0, 2}, "Add", name)
		want(t, Mul(f, []byte{1, 1}, []byte{1, 1}), []byte{1, 0, 1}, "Mul", name)
		if n := Degree([]byte{5, 0, 0}); n != 0 {
			t.Errorf("Degree(5 0 0) = %d", n)
		}
		q, r, e := Div(f, []byte{1, 0, 1}, []byte{1, 1})
		if !bytes.Equal(q, []byte{1, 1}) || len(r) != 0 || e != api.OK {
			t.Errorf("%s: Div(1 0 1, 1 1) = %v, %v, %d", name, q, r, e)
		}
		if q, r, e := Div(f, []byte{5}, nil); len(q) != 0 || len(r) != 0 || e != api.ErrZero {
			t.Errorf("%s: Div(5, nothing) = %v, %v, %d", name, q, r, e)
		}
		if y := At(f, []byte{1, 0, 1}, 2); y != 5 {
			t.Errorf("%s: At(1 0 1, 2) = %d", name, y)
		}
		want(t, Roots(f, 2, 3), []byte{6, 1, 1}, "Roots", name)
		p, e := Through(f, []byte{0, 1}, []byte{7, 6})
		if !bytes.Equal(p, []byte{7, 1}) || e != api.OK {
			t.Errorf("%s: Through(0 1, 7 6) = %v, %d", name, p, e)
		}
	}
}

// P4.1: the same polynomial, without zeros at its end.
func TestTrim(t *testing.T) {
	for _, x := range []struct{ a, want []byte }{
		{nil, nil}, {[]byte{}, nil}, {[]byte{0}, nil}, {make([]byte, 1000), nil},
		{[]byte{1}, []byte{1}}, {[]byte{0, 7, 0, 0}, []byte{0, 7}}, {[]byte{0, 0, 255}, []byte{0, 0, 255}}, {[]byte{1, 0, 2, 0}, []byte{1, 0, 2}},
	} {
		want(t, Trim(x.a), x.want, "Trim", x.a)
	}
	for _, a := range samples() {
		want(t, Trim(a), plain(a), "Trim", a)
	}
}

// P4.1: the greatest power whose coefficient is not 0; -1 for the polynomial 0.
func TestDegree(t *testing.T) {
	for _, x := range []struct {
		a    []byte
		want int
	}{{nil, -1}, {[]byte{}, -1}, {[]byte{0}, -1}, {make([]byte, 1000), -1}, {[]byte{1}, 0}, {[]byte{0, 1}, 1}, {[]byte{9, 0, 0}, 0}, {[]byte{0, 3, 0}, 1}} {
		if got := Degree(x.a); got != x.want {
			t.Errorf("Degree(%v) = %d, want %d", x.a, got, x.want)
		}
	}
	for n := range 300 {
		a := make([]byte, 300)
		a[n] = byte(n%255) + 1
		if got := Degree(a); got != n {
			t.Errorf("only x^%d is there: Degree %d", n, got)
		}
	}
}

// P4.2: sums of the coefficients of the same power, trimmed, also where the highest ones cancel.
func TestAdd(t *testing.T) {
	for _, a := range samples() {
		for _, b := range samples() {
			want(t, Add(a, b), sum(a, b), "Add", a, b)
			want(t, Add(Add(a, b), b), plain(a), "Add, twice,", a, b)
		}
		want(t, Add(a, a), nil, "Add", a, a)
	}
	want(t, Add([]byte{1, 2, 3, 4}, []byte{0, 2, 3, 4, 0}), []byte{1}, "Add")
}

// P4.2: the product of the definition; 0, if one of both is.
func TestMul(t *testing.T) {
	for name, f := range kinds() {
		for _, a := range samples() {
			for _, b := range samples() {
				want(t, Mul(f, a, b), product(a, b), "Mul", name, a, b)
			}
			want(t, Mul(f, a, nil), nil, "Mul", name, a, "nothing")
			want(t, Mul(f, []byte{0, 0}, a), nil, "Mul", name, "0 0", a)
			want(t, Mul(f, a, []byte{1, 0}), plain(a), "Mul", name, a, "1 0")
		}
		want(t, Mul(f, []byte{0, 0, 2}, []byte{128, 0}), []byte{0, 0, 29}, "Mul", name)
	}
}

// divided checks what P4.3 says of a division by what is not 0.
func divided(t *testing.T, f *field.Field, a, b []byte) {
	t.Helper()
	q, r, e := Div(f, a, b)
	if e != api.OK {
		t.Errorf("Div(%v, %v): error %d", a, b, e)
		return
	}
	if got := sum(product(q, b), r); !bytes.Equal(got, plain(a)) {
		t.Errorf("Div(%v, %v) = %v, %v, which together are %v", a, b, q, r, got)
	}
	if top(r) >= top(b) {
		t.Errorf("Div(%v, %v): the remainder %v is of no lower degree", a, b, r)
	}
	if !bytes.Equal(q, plain(q)) || !bytes.Equal(r, plain(r)) {
		t.Errorf("Div(%v, %v) = %v, %v: not trimmed", a, b, q, r)
	}
}

// P4.3: quotient and remainder, of dividends of higher, equal and lower degrees.
func TestDiv(t *testing.T) {
	for _, f := range kinds() {
		for _, a := range samples() {
			for _, b := range samples() {
				if top(b) >= 0 {
					divided(t, f, a, b)
				}
			}
		}
	}
}

// P4.3: some divisions whose results are known.
func TestDivOfKnown(t *testing.T) {
	for name, f := range kinds() {
		for _, x := range []struct{ a, b, q, r []byte }{
			{nil, []byte{1}, nil, nil},
			{[]byte{0, 0}, []byte{7, 0, 3}, nil, nil},
			{[]byte{5, 6, 0}, []byte{1, 2, 3}, nil, []byte{5, 6}},
			{[]byte{0, 0, 29}, []byte{0, 2, 0}, []byte{0, 128}, nil},
			{[]byte{7, 0, 1}, []byte{1, 1}, []byte{1, 1}, []byte{6}},
			{[]byte{4, 6, 8, 0}, []byte{2}, []byte{2, 3, 4}, nil},
			{[]byte{9, 8, 7}, []byte{9, 8, 7}, []byte{1}, nil},
			{[]byte{9, 8, 7}, []byte{0, 0, 0, 1}, nil, []byte{9, 8, 7}},
			{[]byte{9, 8, 7, 6}, []byte{0, 0, 1, 0}, []byte{7, 6}, []byte{9, 8}},
		} {
			q, r, e := Div(f, x.a, x.b)
			if !bytes.Equal(q, x.q) || !bytes.Equal(r, x.r) || e != api.OK {
				t.Errorf("%s: Div(%v, %v) = %v, %v, %d, want %v, %v", name, x.a, x.b, q, r, e, x.q, x.r)
			}
		}
	}
}

// P4.3: nothing is divided by 0, in whatever form, also not 0 itself; then there are no other results.
func TestDivByNought(t *testing.T) {
	for name, f := range kinds() {
		for _, a := range samples() {
			for _, b := range [][]byte{nil, {}, {0}, make([]byte, 50)} {
				if q, r, e := Div(f, a, b); len(q) != 0 || len(r) != 0 || e != api.ErrZero {
					t.Errorf("%s: Div(%v, %v) = %v, %v, %d", name, a, b, q, r, e)
				}
			}
		}
	}
}

// P4.4: the value of the definition, at all elements.
func TestAt(t *testing.T) {
	for name, f := range kinds() {
		for _, a := range samples() {
			for x := range 256 {
				if got, want := At(f, a, byte(x)), value(a, byte(x)); got != want {
					t.Errorf("%s: At(%v, %d) = %d, want %d", name, a, x, got, want)
				}
			}
		}
		if y := At(f, []byte{77, 1, 2, 3}, 0); y != 77 {
			t.Errorf("%s: the value at 0 is %d, not the coefficient of x^0", name, y)
		}
	}
}

// P4.5: the product of all factors, for no roots, for 0, and for roots that are there several times.
func TestRoots(t *testing.T) {
	lists := [][]byte{nil, {}, {0}, {1}, {255}, {0, 0}, {0, 0, 0, 0}, {2, 3}, {3, 2}, {7, 7}, {7, 0, 7, 7}, points(1, 30), points(2, 256), mixed(3, 400)}
	for name, f := range kinds() {
		for _, xs := range lists {
			expected := []byte{1}
			for _, x := range xs {
				expected = product(expected, []byte{x, 1})
			}
			want(t, Roots(f, xs...), expected, "Roots", name, xs)
		}
		want(t, Roots(f), []byte{1}, "Roots", name)
		want(t, Roots(f, 0, 0), []byte{0, 0, 1}, "Roots", name)
	}
	// All elements are the roots of x^256 + x.
	all := make([]byte, 257)
	all[1], all[256] = 1, 1
	want(t, Roots(nil, points(4, 256)...), all, "Roots")
}

// P4.6: a polynomial that is trimmed, of a degree below the number of points, with the values at them.
func TestThrough(t *testing.T) {
	for name, f := range kinds() {
		for _, n := range []int{0, 1, 2, 3, 4, 7, 20, 255, 256} {
			for seed := range 3 {
				xs, ys := points(seed, n), mixed(seed+50, n)
				p, e := Through(f, xs, ys)
				if e != api.OK || len(p) > n || !bytes.Equal(p, plain(p)) {
					t.Errorf("%s: Through %d points: %v, %d", name, n, p, e)
				}
				for i, x := range xs {
					if got := value(p, x); got != ys[i] {
						t.Errorf("%s: Through %d points: %d at %d, want %d", name, n, got, x, ys[i])
					}
				}
			}
		}
	}
}

// P4.6: no points; values that are all 0, or all the same.
func TestThroughPlainValues(t *testing.T) {
	for name, f := range kinds() {
		for _, x := range []struct{ xs, ys, want []byte }{
			{nil, nil, nil}, {[]byte{}, nil, nil}, {nil, []byte{}, nil},
			{[]byte{0}, []byte{0}, nil}, {[]byte{9}, []byte{4}, []byte{4}},
			{points(1, 256), make([]byte, 256), nil},
			{points(1, 256), bytes.Repeat([]byte{8}, 256), []byte{8}},
			{points(2, 256), points(2, 256), []byte{0, 1}},
		} {
			p, e := Through(f, x.xs, x.ys)
			if !bytes.Equal(p, x.want) || e != api.OK {
				t.Errorf("%s: Through(%v, %v) = %v, %d, want %v", name, x.xs, x.ys, p, e, x.want)
			}
		}
	}
}

// P4.6: unlike lengths, and points that are there twice, also with the same value, at any two indices, or because there are more than elements.
func TestThroughWrongArguments(t *testing.T) {
	for name, f := range kinds() {
		wrong := [][2][]byte{
			{{1}, nil}, {nil, {1}}, {{1, 2}, {1}}, {{1}, {1, 2}}, {points(1, 256), make([]byte, 255)}, {points(1, 256), make([]byte, 257)},
			{{1, 1}, {2, 3}}, {{1, 1}, {2, 2}}, {{1, 2, 1}, {0, 0, 0}}, {{0, 0}, {5, 5}}, {{1, 1}, {2}},
			{append(points(1, 256), 0), make([]byte, 257)}, {make([]byte, 5000), make([]byte, 5000)},
		}
		for i := range 6 {
			for j := range i {
				xs := points(3, 6)
				xs[i] = xs[j]
				wrong = append(wrong, [2][]byte{xs, mixed(1, 6)})
			}
		}
		for _, x := range wrong {
			if p, e := Through(f, x[0], x[1]); len(p) != 0 || e != api.ErrArg {
				t.Errorf("%s: Through(%v, %v) = %v, %d", name, x[0], x[1], p, e)
			}
		}
	}
}

// results makes each call that returns lists with the arguments a and b, and returns what it returned.
func results(f *field.Field, a, b []byte) [][]byte {
	q, r, _ := Div(f, a, b)
	p, _ := Through(f, a, b)
	return [][]byte{Trim(a), Add(a, b), Add(b, a), Add(a, nil), Add(nil, b), Mul(f, a, b), Mul(f, a, []byte{1}), Mul(f, []byte{1}, b), q, r, Roots(f, a...), p}
}

// listArguments are pairs that make results long, short, or equal to an argument.
func listArguments() [][2][]byte {
	return [][2][]byte{
		{{1, 2, 3, 4}, {5, 6, 7, 8}}, {{1, 2, 3, 4}, {1, 0}}, {{1, 2}, {3, 4, 5, 0}}, {{1, 2, 3}, {0, 0, 0}}, {{4, 3, 2, 0, 0}, {9, 9}}, {{7}, {7}}, {{1, 2, 3}, {2, 3, 3}}, {nil, nil}, {nil, {1, 2}},
	}
}

// P4.7: arguments are only read, with what is after their length in their memory.
func TestArgumentsStay(t *testing.T) {
	for name, f := range kinds() {
		for _, x := range listArguments() {
			memory := slices.Concat([]byte{201}, x[0], []byte{202, 203, 204}, x[1], bytes.Repeat([]byte{205}, 20))
			before := slices.Clone(memory)
			a, b := memory[1:1+len(x[0])], memory[4+len(x[0]):4+len(x[0])+len(x[1])]
			results(f, a, b)
			At(f, a, 3)
			Degree(b)
			if !bytes.Equal(memory, before) {
				t.Errorf("%s, %v: the memory of the arguments is now %v, and was %v", name, x, memory, before)
			}
		}
	}
}

// P4.7: no result shares memory with an argument, or with another result, up to the end of its memory.
func TestResultsAreNewMemory(t *testing.T) {
	for name, f := range kinds() {
		for _, x := range listArguments() {
			a, b := append(x[0], make([]byte, 20)...)[:len(x[0])], append(x[1], make([]byte, 20)...)[:len(x[1])]
			lists := results(f, a, b)
			expected := results(f, a, b)
			for i := range lists {
				for j := range lists[i][:cap(lists[i])] {
					lists[i][:cap(lists[i])][j] = 211
				}
				for j := i + 1; j < len(lists); j++ {
					want(t, lists[j], expected[j], "another result", name, i, j, x)
				}
				want(t, a, x[0], "the first argument", name, i, x)
				want(t, b, x[1], "the second argument", name, i, x)
				if slices.Contains(a[:cap(a)], 211) || slices.Contains(b[:cap(b)], 211) {
					t.Errorf("%s, %v: result %d shares memory with an argument", name, x, i)
				}
			}
		}
	}
}

// P4.7: results depend on the arguments alone, not on their memory, nor on earlier calls.
func TestResultsDependOnArgumentsAlone(t *testing.T) {
	f := field.New()
	for _, x := range listArguments() {
		expected := results(field.New(), slices.Clip(slices.Clone(x[0])), slices.Clip(slices.Clone(x[1])))
		for range 3 {
			roomy := append(slices.Clone(x[0]), mixed(3, 30)...)[:len(x[0])]
			for i, got := range results(f, roomy, x[1]) {
				want(t, got, expected[i], "result", i, x)
			}
		}
	}
}

// P4.8: the laws of addition and multiplication.
func TestLaws(t *testing.T) {
	f := field.New()
	for _, a := range samples() {
		for _, b := range samples() {
			want(t, Add(a, b), Add(b, a), "a + b", a, b)
			want(t, Mul(f, a, b), Mul(f, b, a), "a b", a, b)
			for _, c := range samples()[4:24] {
				want(t, Add(Add(a, b), c), Add(a, Add(b, c)), "(a + b) + c", a, b, c)
				want(t, Mul(f, Mul(f, a, b), c), Mul(f, a, Mul(f, b, c)), "(a b) c", a, b, c)
				want(t, Mul(f, a, Add(b, c)), Add(Mul(f, a, b), Mul(f, a, c)), "a (b + c)", a, b, c)
			}
		}
	}
}

// P4.8: values of sums and products, and degrees of products.
func TestValuesAndDegrees(t *testing.T) {
	f := field.New()
	for _, a := range samples() {
		for _, b := range samples() {
			for _, x := range points(1, 40) {
				if got, want := At(f, Add(a, b), x), field.Add(At(f, a, x), At(f, b, x)); got != want {
					t.Errorf("the sum of %v and %v at %d: %d, want %d", a, b, x, got, want)
				}
				if got, want := At(f, Mul(f, a, b), x), f.Mul(At(f, a, x), At(f, b, x)); got != want {
					t.Errorf("the product of %v and %v at %d: %d, want %d", a, b, x, got, want)
				}
			}
			if Degree(a) < 0 || Degree(b) < 0 {
				continue
			}
			if got, want := Degree(Mul(f, a, b)), Degree(a)+Degree(b); got != want {
				t.Errorf("the degree of the product of %v and %v: %d, want %d", a, b, got, want)
			}
		}
	}
}

// P4.8: the number of roots, and that they are what Roots divides by.
func TestRootsOfPolynomials(t *testing.T) {
	f := field.New()
	for _, a := range append(samples(), Roots(f, 1, 2, 3), Roots(f, 0, 5, 5), Roots(f, points(1, 100)...), Mul(f, Roots(f, 9, 8), []byte{3, 0, 7})) {
		count := 0
		for x := range 256 {
			_, r, e := Div(f, a, Roots(f, byte(x)))
			if root := At(f, a, byte(x)) == 0; root != (len(r) == 0) || e != api.OK {
				t.Errorf("%v at %d: a root %v, but the remainder is %v", a, x, root, r)
			} else if root {
				count++
			}
		}
		if Degree(a) >= 0 && count > Degree(a) {
			t.Errorf("%v has %d roots", a, count)
		}
	}
	for _, xs := range [][]byte{{4}, {0, 1}, points(5, 80)} {
		for _, x := range xs {
			if y := At(f, Roots(f, xs...), x); y != 0 {
				t.Errorf("Roots(%v) at %d: %d", xs, x, y)
			}
		}
	}
}

// P4.8: a polynomial is what goes through its values at more points than its degree.
func TestThroughReturnsThePolynomial(t *testing.T) {
	f := field.New()
	for i, a := range samples() {
		for _, n := range []int{Degree(a) + 1, Degree(a) + 2, 100, 256} {
			xs := points(i, n)
			ys := make([]byte, n)
			for j, x := range xs {
				ys[j] = At(f, a, x)
			}
			p, e := Through(f, xs, ys)
			if !bytes.Equal(p, plain(a)) || e != api.OK {
				t.Errorf("Through %d points of %v: %v, %d", n, a, p, e)
			}
		}
	}
}
