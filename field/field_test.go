package field

import (
	"math"
	"sync"
	"testing"
)

// kinds are fields of all origins, made anew by each call.
func kinds() map[string]*Field {
	return map[string]*Field{"made by New": New(), "nil": nil, "zero": {}, "by new": new(Field)}
}

// product does what the definition of the field says, without its tables: bytes as polynomials are multiplied, and the remainder modulo the polynomial 285 is taken.
func product(a, b byte) byte {
	rest := 0
	for i := range 8 {
		if b>>i&1 == 1 {
			rest ^= int(a) << i
		}
	}
	for power := 14; power >= 8; power-- {
		if rest>>power&1 == 1 {
			rest ^= 285 << (power - 8)
		}
	}
	return byte(rest)
}

// inverse searches the element whose product with a is 1; 0, if there is none.
func inverse(a byte) byte {
	for b := range 256 {
		if product(a, byte(b)) == 1 {
			return byte(b)
		}
	}
	return 0
}

// power multiplies n equal factors, by squaring.
func power(a byte, n uint64) byte {
	out := byte(1)
	for ; n > 0; n >>= 1 {
		if n&1 == 1 {
			out = product(out, a)
		}
		a = product(a, a)
	}
	return out
}

// exponents are ordinary ones, and those at the edges of ints and of what g's order divides.
func exponents() []int {
	out := []int{math.MinInt, math.MinInt + 1, math.MaxInt, math.MaxInt - 1, math.MinInt32, math.MaxInt32}
	for n := -520; n <= 520; n++ {
		out = append(out, n)
	}
	for shift := 10; shift < 63; shift++ {
		out = append(out, 1<<shift, -1<<shift, 1<<shift-1, 255<<(shift-8), -255<<(shift-8))
	}
	return out
}

// wantPow is what P3.5 says.
func wantPow(a byte, n int) byte {
	if n >= 0 {
		return power(a, uint64(n))
	}
	return power(inverse(a), uint64(-(n+1))+1)
}

// Examples.
func TestExamples(t *testing.T) {
	for name, f := range kinds() {
		for _, x := range []struct {
			call      string
			got, want int
		}{
			{"Add(5, 3)", int(Add(5, 3)), 6},
			{"Mul(2, 128)", int(f.Mul(2, 128)), 29},
			{"Mul(3, 7)", int(f.Mul(3, 7)), 9},
			{"Mul(255, 255)", int(f.Mul(255, 255)), 226},
			{"Pow(2, 8)", int(f.Pow(2, 8)), 29},
			{"Pow(2, -1)", int(f.Pow(2, -1)), 142},
			{"Pow(0, 0)", int(f.Pow(0, 0)), 1},
			{"Exp(255)", int(f.Exp(255)), 1},
			{"Order(2)", f.Order(2), 255},
			{"Order(1)", f.Order(1), 1},
			{"Order(0)", f.Order(0), 0},
		} {
			if x.got != x.want {
				t.Errorf("%s: %s = %d, want %d", name, x.call, x.got, x.want)
			}
		}
		if n, ok := f.Inv(2); n != 142 || !ok {
			t.Errorf("%s: Inv(2) = %d, %v", name, n, ok)
		}
		if n, ok := f.Div(1, 0); n != 0 || ok {
			t.Errorf("%s: Div(1, 0) = %d, %v", name, n, ok)
		}
		if n, ok := f.Log(29); n != 8 || !ok {
			t.Errorf("%s: Log(29) = %d, %v", name, n, ok)
		}
	}
}

// calls returns what each method returns for a few arguments, the method at index first before the others.
func calls(f *Field, first int) [8]int {
	var out [8]int
	count := func(n byte, ok bool) int {
		if !ok {
			return -1
		}
		return int(n)
	}
	for i := range out {
		switch at := (first + i) % len(out); at {
		case 0:
			out[at] = int(f.Mul(87, 131))
		case 1:
			out[at] = count(f.Inv(87))
		case 2:
			out[at] = count(f.Div(87, 131))
		case 3:
			out[at] = int(f.Pow(87, -77))
		case 4:
			out[at] = int(f.Exp(-1000))
		case 5:
			n, ok := f.Log(131)
			out[at] = count(byte(n), ok)
		case 6:
			out[at] = f.Order(87)
		case 7:
			out[at] = count(f.Inv(0))
		}
	}
	return out
}

// P3.1: whichever call is the first one, of whatever field, and however often.
func TestCallsAlwaysReturnTheSame(t *testing.T) {
	if New() == nil {
		t.Error("New returned no field")
	}
	want := calls(New(), 0)
	for first := range want {
		for name, f := range kinds() {
			for range 3 {
				if got := calls(f, first); got != want {
					t.Errorf("%s, call %d first: %v, want %v", name, first, got, want)
				}
			}
		}
	}
}

// P3.1: also when the first calls of a field are made at once.
func TestCallsAtOnce(t *testing.T) {
	want := calls(New(), 0)
	for range 100 {
		for name, f := range kinds() {
			var wg sync.WaitGroup
			var got [8][8]int
			for i := range got {
				wg.Go(func() { got[i] = calls(f, i) })
			}
			wg.Wait()
			for i, g := range got {
				if g != want {
					t.Fatalf("%s, %d: %v, want %v", name, i, g, want)
				}
			}
		}
	}
}

// P3.2: bit by bit; each element is what must be added to a sum to have the other one.
func TestAdd(t *testing.T) {
	for a := range 256 {
		for b := range 256 {
			var want byte
			for bit := range 8 {
				want |= byte((a>>bit+b>>bit)%2) << bit
			}
			if got := Add(byte(a), byte(b)); got != want {
				t.Fatalf("Add(%d, %d) = %d, want %d", a, b, got, want)
			}
			if got := Add(want, byte(b)); got != byte(a) {
				t.Fatalf("the difference of %d and %d: %d, want %d", want, b, got, a)
			}
		}
	}
}

// P3.3: the product of the definition, for all pairs.
func TestMul(t *testing.T) {
	for name, f := range kinds() {
		for a := range 256 {
			for b := range 256 {
				if got, want := f.Mul(byte(a), byte(b)), product(byte(a), byte(b)); got != want {
					t.Fatalf("%s: Mul(%d, %d) = %d, want %d", name, a, b, got, want)
				}
			}
		}
	}
}

// P3.4: there is no inverse of 0, and exactly one of each other element.
func TestInv(t *testing.T) {
	for name, f := range kinds() {
		for a := range 256 {
			got, ok := f.Inv(byte(a))
			if want := inverse(byte(a)); got != want || ok != (a != 0) {
				t.Errorf("%s: Inv(%d) = %d, %v, want %d", name, a, got, ok, want)
			}
		}
	}
}

// P3.4: nothing is divided by 0, also not 0; otherwise the quotient is the element whose product with the divisor is given.
func TestDiv(t *testing.T) {
	for name, f := range kinds() {
		for b := range 256 {
			for q := range 256 {
				if b == 0 {
					if got, ok := f.Div(byte(q), 0); got != 0 || ok {
						t.Fatalf("%s: Div(%d, 0) = %d, %v", name, q, got, ok)
					}
					continue
				}
				a := product(byte(q), byte(b))
				if got, ok := f.Div(a, byte(b)); got != byte(q) || !ok {
					t.Fatalf("%s: Div(%d, %d) = %d, %v, want %d", name, a, b, got, ok, q)
				}
			}
		}
	}
}

// P3.5: powers of all elements, of exponents above, below and at 0.
func TestPow(t *testing.T) {
	for name, f := range kinds() {
		for a := range 256 {
			for _, n := range exponents() {
				if got, want := f.Pow(byte(a), n), wantPow(byte(a), n); got != want {
					t.Fatalf("%s: Pow(%d, %d) = %d, want %d", name, a, n, got, want)
				}
			}
		}
	}
}

// P3.5: the element 0, whose power 0 is 1.
func TestPowOfNought(t *testing.T) {
	for name, f := range kinds() {
		for _, n := range exponents() {
			var want byte
			if n == 0 {
				want = 1
			}
			if got := f.Pow(0, n); got != want {
				t.Errorf("%s: Pow(0, %d) = %d, want %d", name, n, got, want)
			}
		}
	}
}

// P3.6: the powers of g.
func TestExp(t *testing.T) {
	for name, f := range kinds() {
		for _, n := range exponents() {
			if got, want := f.Exp(n), wantPow(2, n); got != want {
				t.Errorf("%s: Exp(%d) = %d, want %d", name, n, got, want)
			}
		}
	}
}

// P3.6: the exponents from 0 to 254 lead to all elements except 0, each once.
func TestLog(t *testing.T) {
	for name, f := range kinds() {
		if n, ok := f.Log(0); n != 0 || ok {
			t.Errorf("%s: Log(0) = %d, %v", name, n, ok)
		}
		element := byte(1)
		for want := range 255 {
			if n, ok := f.Log(element); n != want || !ok {
				t.Errorf("%s: Log(%d) = %d, %v, want %d", name, element, n, ok, want)
			}
			if got := f.Exp(want); got != element {
				t.Errorf("%s: Exp(%d) = %d, want %d", name, want, got, element)
			}
			element = product(element, 2)
		}
	}
}

// P3.7: the least exponent above 0 for which the power is 1.
func TestOrder(t *testing.T) {
	for name, f := range kinds() {
		if n := f.Order(0); n != 0 {
			t.Errorf("%s: Order(0) = %d", name, n)
		}
		for a := 1; a < 256; a++ {
			want := 1
			for p := byte(a); p != 1; p = product(p, byte(a)) {
				want++
			}
			if got := f.Order(byte(a)); got != want {
				t.Errorf("%s: Order(%d) = %d, want %d", name, a, got, want)
			}
		}
	}
}

// P3.8: the laws of two elements.
func TestLawsOfTwo(t *testing.T) {
	f := New()
	for i := range 1 << 16 {
		a, b := byte(i>>8), byte(i)
		if Add(a, b) != Add(b, a) || f.Mul(a, b) != f.Mul(b, a) {
			t.Fatalf("%d, %d: not commutative", a, b)
		}
		if f.Pow(Add(a, b), 2) != Add(f.Pow(a, 2), f.Pow(b, 2)) || f.Pow(a, 2) != f.Mul(a, a) {
			t.Fatalf("%d, %d: the square of the sum is not the sum of the squares", a, b)
		}
		if a == 0 || b == 0 {
			continue
		}
		if q, ok := f.Div(f.Mul(a, b), b); q != a || !ok {
			t.Fatalf("%d, %d: Div does not undo Mul", a, b)
		}
		m, _ := f.Log(a)
		n, _ := f.Log(b)
		if sum, ok := f.Log(f.Mul(a, b)); sum != (m+n)%255 || !ok {
			t.Fatalf("%d, %d: Log of the product is %d, not the sum of %d and %d", a, b, sum, m, n)
		}
	}
}

// P3.8: the laws of three elements.
func TestLawsOfThree(t *testing.T) {
	f := New()
	for i := range 1 << 24 {
		a, b, c := byte(i>>16), byte(i>>8), byte(i)
		if Add(Add(a, b), c) != Add(a, Add(b, c)) {
			t.Fatalf("%d, %d, %d: addition is not associative", a, b, c)
		}
		if f.Mul(f.Mul(a, b), c) != f.Mul(a, f.Mul(b, c)) {
			t.Fatalf("%d, %d, %d: multiplication is not associative", a, b, c)
		}
		if f.Mul(a, Add(b, c)) != Add(f.Mul(a, b), f.Mul(a, c)) {
			t.Fatalf("%d, %d, %d: not distributive", a, b, c)
		}
	}
}

// P3.8: the 255th power.
func TestPower255(t *testing.T) {
	for name, f := range kinds() {
		for a := 1; a < 256; a++ {
			if got := f.Pow(byte(a), 255); got != 1 {
				t.Errorf("%s: Pow(%d, 255) = %d", name, a, got)
			}
		}
	}
}
