package reed

import (
	"bytes"
	"math"
	"slices"
	"sync"
	"testing"

	"starfish/api"
	"starfish/field"
)

// kinds are fields of all origins, made anew by each call.
func kinds() map[string]*field.Field {
	return map[string]*field.Field{"made by New": field.New(), "nil": nil, "zero": {}}
}

// none are codes that New did not make.
func none() map[string]*Code {
	return map[string]*Code{"nil": nil, "zero": {}}
}

// products are those of all pairs of elements, made once for all tests.
var products = func() (all [256][256]byte) {
	for a := range all {
		for b := range all {
			all[a][b] = product(byte(a), byte(b))
		}
	}
	return all
}()

// product multiplies bytes as polynomials, and takes the remainder, as the definition of the field says.
func product(a, b byte) byte {
	rest := 0
	for i := range 8 {
		if b>>i&1 == 1 {
			rest ^= int(a) << i
		}
	}
	for power := 14; power >= 8; power-- {
		if rest>>power&1 == 1 {
			rest ^= 285 << (power - 8)
		}
	}
	return byte(rest)
}

// symbol adds up the coefficients of a message times the powers of x.
func symbol(msg []byte, x byte) byte {
	var sum byte
	power := byte(1)
	for _, coefficient := range msg {
		sum ^= products[coefficient][power]
		power = products[power][x]
	}
	return sum
}

// word is a message's word by its definition.
func word(msg, xs []byte) []byte {
	out := make([]byte, len(xs))
	for i, x := range xs {
		out[i] = symbol(msg, x)
	}
	return out
}

// sum adds bytes one by one.
func sum(a, b []byte) []byte {
	out := make([]byte, len(a))
	for i := range a {
		out[i] = a[i] ^ b[i]
	}
	return out
}

// mixed returns n bytes that follow no plain pattern, the same for the same seed.
func mixed(seed, n int) []byte {
	b := make([]byte, n)
	state := uint32(seed)*2654435761 + 1
	for i := range b {
		state = state*1664525 + 1013904223
		b[i] = byte(state >> 24)
	}
	return b
}

// shuffled returns the first n numbers, in an order that follows no plain pattern.
func shuffled(seed, n int) []int {
	out := upTo(n)
	for i, b := range mixed(seed, n) {
		j := int(b) % n
		out[i], out[j] = out[j], out[i]
	}
	return out
}

// upTo returns the first n numbers.
func upTo(n int) []int {
	out := make([]int, n)
	for i := range out {
		out[i] = i
	}
	return out
}

// distinct returns n different points in a mixed order.
func distinct(seed, n int) []byte {
	var out []byte
	for _, i := range shuffled(seed, 256)[:n] {
		out = append(out, byte(i))
	}
	return out
}

// at returns those of b at these places.
func at(b []byte, places []int) []byte {
	out := make([]byte, 0, len(places))
	for _, i := range places {
		out = append(out, b[i])
	}
	return out
}

// sample is a code's points and K.
type sample struct {
	xs []byte
	k  int
}

// sampled are few and many points, one and all of them, with and without the point 0, each with the K at the edges and between.
func sampled() []sample {
	all := []byte{}
	for x := range 256 {
		all = append(all, byte(x))
	}
	lists := [][]byte{{0}, {1}, {255}, {0, 1}, {7, 0}, {255, 128}, {1, 2, 4}, {0, 1, 2, 3}, {5, 0, 9}, {1, 2, 4, 8, 16, 32, 64, 128, 29}, distinct(1, 6), distinct(2, 17), distinct(3, 40), all[1:], all, distinct(4, 256)}
	var out []sample
	for _, xs := range lists {
		n := len(xs)
		ks := []int{1, 2, 3, n / 2, n - 1, n}
		slices.Sort(ks)
		for _, k := range slices.Compact(ks) {
			if k >= 1 && k <= n {
				out = append(out, sample{xs, k})
			}
		}
	}
	return out
}

// messages of k bytes: zeros, only one end that is not, only ones, mixed ones.
func messages(k int) [][]byte {
	first, last := make([]byte, k), make([]byte, k)
	first[0], last[k-1] = 201, 77
	return [][]byte{make([]byte, k), first, last, bytes.Repeat([]byte{1}, k), bytes.Repeat([]byte{255}, k), mixed(k, k), mixed(k+1, k)}
}

// made returns the code, which must exist.
func made(t *testing.T, f *field.Field, xs []byte, k int) *Code {
	t.Helper()
	c, e := New(f, xs, k)
	if c == nil || e != api.OK {
		t.Fatalf("New of %v, %d: %v, %d", xs, k, c, e)
	}
	return c
}

// right reports a result that is not exactly these bytes, without an error.
func right(t *testing.T, got []byte, e api.Errno, want []byte, call string, about ...any) {
	t.Helper()
	if !bytes.Equal(got, want) || e != api.OK {
		t.Errorf("%s of %v: %v, %d, want %v", call, about, got, e, want)
	}
}

// wrong reports a result that is not this error alone.
func wrong(t *testing.T, got []byte, e, want api.Errno, call string, about ...any) {
	t.Helper()
	if len(got) != 0 || e != want {
		t.Errorf("%s of %v: %v, %d, want the error %d", call, about, got, e, want)
	}
}

// Examples.
func TestExamples(t *testing.T) {
	for name, f := range kinds() {
		c := made(t, f, []byte{1, 2, 4}, 2)
		got, e := c.Encode([]byte{7, 1})
		right(t, got, e, []byte{6, 5, 3}, "Encode", name)
		got, e = c.Decode([]int{2, 0}, []byte{3, 6})
		right(t, got, e, []byte{7, 1}, "Decode", name)
		got, e = c.Decode([]int{0}, []byte{6})
		wrong(t, got, e, api.ErrFew, "Decode", name)
		got, e = c.Decode([]int{0, 1, 2}, []byte{6, 5, 2})
		wrong(t, got, e, api.ErrWrong, "Decode", name)
		for _, x := range []sample{{[]byte{1, 2, 1}, 2}, {[]byte{1, 2}, 3}} {
			if c, e := New(f, x.xs, x.k); c != nil || e != api.ErrArg {
				t.Errorf("%s: New of %v, %d: %d", name, x.xs, x.k, e)
			}
		}
	}
}

// P7.1, P7.2: the codes that there are, over each kind of field, tell what they were made of.
func TestNew(t *testing.T) {
	for name, f := range kinds() {
		for _, x := range sampled() {
			c := made(t, f, x.xs, x.k)
			if c.K() != x.k || !bytes.Equal(c.Points(), x.xs) {
				t.Errorf("%s: the code of %v, %d has K %d, points %v", name, x.xs, x.k, c.K(), c.Points())
			}
		}
	}
}

// P7.1: K for each number of points, from 1 to that number and nothing else.
func TestNewEachK(t *testing.T) {
	f := field.New()
	for n := range 257 {
		xs := distinct(n, n)
		for k := -1; k <= 258; k++ {
			c, e := New(f, xs, k)
			if good := k >= 1 && k <= n; good != (c != nil) || good != (e == api.OK) || !good && e != api.ErrArg {
				t.Fatalf("New of %d points, %d: %v, %d", n, k, c, e)
			}
		}
	}
}

// P7.1: numbers far below 0 and far above all limits, some of which are right again if only their low bits are taken.
func TestNewHugeK(t *testing.T) {
	for name, f := range kinds() {
		for _, xs := range [][]byte{nil, {}, {3}, {1, 2, 4}, distinct(1, 256)} {
			for _, k := range []int{math.MinInt, math.MinInt + 1, math.MinInt32, -1 << 16, -256, -255, -1, 257, 1<<8 + 1, 1<<16 + 1, 1 << 32, 1<<32 + 1, math.MaxInt32, math.MaxInt - 1, math.MaxInt} {
				if c, e := New(f, xs, k); c != nil || e != api.ErrArg {
					t.Errorf("%s: New of %v, %d: %v, %d", name, xs, k, c, e)
				}
			}
		}
	}
}

// P7.1: one point that is there twice, wherever, is one too many; so is each list of more than there are elements.
func TestNewEqualPoints(t *testing.T) {
	f := field.New()
	for _, n := range []int{2, 3, 5, 256} {
		for i := range n {
			for _, j := range []int{0, n / 2, n - 1} {
				xs := distinct(n, n)
				if xs[i] == xs[j] {
					continue
				}
				xs[i] = xs[j]
				for _, k := range []int{1, n - 1, n} {
					if c, e := New(f, xs, k); c != nil || e != api.ErrArg {
						t.Errorf("New of %d points, equal at %d and %d, %d: %v, %d", n, i, j, k, c, e)
					}
				}
			}
		}
	}
	for _, xs := range [][]byte{append(distinct(5, 256), 0), append(distinct(5, 256), 255), mixed(1, 300), make([]byte, 256), make([]byte, 70000)} {
		for _, k := range []int{1, 2, 256, 257, len(xs)} {
			if c, e := New(f, xs, k); c != nil || e != api.ErrArg {
				t.Errorf("New of %d points, %d: %v, %d", len(xs), k, c, e)
			}
		}
	}
}

// P7.2: the field is one, whatever the code was made with, and computes like each.
func TestField(t *testing.T) {
	for name, f := range kinds() {
		c := made(t, f, []byte{0, 3}, 1)
		got := c.Field()
		if got == nil {
			t.Errorf("%s: no field", name)
			continue
		}
		for a := range 256 {
			for _, b := range []byte{0, 1, 2, 29, 255} {
				if got.Mul(byte(a), b) != product(byte(a), b) {
					t.Errorf("%s: the product of %d and %d: %d", name, a, b, got.Mul(byte(a), b))
				}
			}
		}
	}
}

// P7.1, and the rules for objects made by hand: calls of no code.
func TestNoCode(t *testing.T) {
	for name, c := range none() {
		if c.K() != 0 || len(c.Points()) != 0 || c.Field() != nil {
			t.Errorf("%s: %d, %v, %v", name, c.K(), c.Points(), c.Field())
		}
		for _, msg := range [][]byte{nil, {}, {1}, {1, 2}, make([]byte, 300)} {
			got, e := c.Encode(msg)
			wrong(t, got, e, api.ErrNil, "Encode", name, msg)
		}
		for _, places := range [][]int{nil, {}, {0}, {0, 0}, {-1}, {math.MaxInt}, {0, 1}} {
			for _, ys := range [][]byte{nil, {}, {1}, {1, 2}} {
				got, e := c.Decode(places, ys)
				wrong(t, got, e, api.ErrNil, "Decode", name, places, ys)
			}
		}
	}
}

// P7.3: words by their definition.
func TestEncode(t *testing.T) {
	for name, f := range kinds() {
		for _, x := range sampled() {
			c := made(t, f, x.xs, x.k)
			for _, msg := range messages(x.k) {
				got, e := c.Encode(msg)
				right(t, got, e, word(msg, x.xs), "Encode", name, x, msg)
			}
		}
	}
}

// P7.3: messages of each other length, up to far more than there are points.
func TestEncodeWrongLengths(t *testing.T) {
	for name, f := range kinds() {
		for _, x := range sampled() {
			c := made(t, f, x.xs, x.k)
			for _, n := range []int{0, 1, x.k - 1, x.k + 1, len(x.xs), len(x.xs) + 1, x.k + 256, 2 * x.k, 1<<16 + x.k} {
				if n == x.k {
					continue
				}
				for _, msg := range [][]byte{make([]byte, n), mixed(1, n)} {
					got, e := c.Encode(msg)
					wrong(t, got, e, api.ErrArg, "Encode", name, x, n)
				}
			}
			got, e := c.Encode(nil)
			wrong(t, got, e, api.ErrArg, "Encode", name, x, "nil")
		}
	}
}

// choices are places of k and of more symbols out of n, in several orders.
func choices(n, k int) [][]int {
	down := upTo(n)
	slices.Reverse(down)
	mix, other := shuffled(n, n), shuffled(n+k, n)
	out := [][]int{upTo(n), upTo(n)[:k], upTo(n)[n-k:], down, down[:k], down[n-k:], mix, mix[:k], other, other[:k]}
	if k < n {
		out = append(out, upTo(n)[:k+1], down[:k+1], mix[:k+1], other[:n-1])
	}
	return out
}

// P7.4: exactly K symbols, more of them, and all, in any order, tell the message.
func TestDecode(t *testing.T) {
	for name, f := range kinds() {
		for _, x := range sampled() {
			c := made(t, f, x.xs, x.k)
			for i, msg := range messages(x.k) {
				if len(x.xs) > 200 && i%3 != 2 {
					continue
				}
				w := word(msg, x.xs)
				for _, places := range choices(len(x.xs), x.k) {
					got, e := c.Decode(places, at(w, places))
					right(t, got, e, msg, "Decode", name, x, places)
				}
			}
		}
	}
}

// P7.4: each choice of symbols of a small code, in each order.
func TestDecodeEachChoice(t *testing.T) {
	xs := []byte{3, 0, 255, 29}
	for k := 1; k <= 4; k++ {
		c := made(t, nil, xs, k)
		msg := mixed(k, k)
		w := word(msg, xs)
		var grow func(places []int)
		grow = func(places []int) {
			got, e := c.Decode(places, at(w, places))
			if len(places) < k {
				wrong(t, got, e, api.ErrFew, "Decode", k, places)
			} else {
				right(t, got, e, msg, "Decode", k, places)
			}
			for i := range xs {
				if !slices.Contains(places, i) {
					grow(append(slices.Clone(places), i))
				}
			}
		}
		grow(nil)
	}
}

// P7.4: one symbol fewer than K, and none.
func TestDecodeFew(t *testing.T) {
	for name, f := range kinds() {
		for _, x := range sampled() {
			c := made(t, f, x.xs, x.k)
			w := word(mixed(x.k, x.k), x.xs)
			for _, n := range []int{0, 1, x.k / 2, x.k - 1} {
				if n >= x.k {
					continue
				}
				places := shuffled(n, len(x.xs))[:n]
				got, e := c.Decode(places, at(w, places))
				wrong(t, got, e, api.ErrFew, "Decode", name, x, places)
			}
			got, e := c.Decode(nil, nil)
			wrong(t, got, e, api.ErrFew, "Decode", name, x, "nothing")
			got, e = c.Decode([]int{}, nil)
			wrong(t, got, e, api.ErrFew, "Decode", name, x, "no places")
		}
	}
}

// P7.4: one false symbol among more than K, wherever it is, and by whatever.
func TestDecodeFalseSymbol(t *testing.T) {
	for name, f := range kinds() {
		for _, x := range sampled() {
			c := made(t, f, x.xs, x.k)
			w := word(mixed(x.k, x.k), x.xs)
			for _, places := range choices(len(x.xs), x.k) {
				if len(places) <= x.k {
					continue
				}
				wrongAt := upTo(len(places))
				if len(places) > 20 {
					wrongAt = []int{0, x.k - 1, x.k, len(places) - 1}
				}
				for _, i := range wrongAt {
					ys := at(w, places)
					ys[i] ^= []byte{1, 128, 255}[i%3]
					got, e := c.Decode(places, ys)
					wrong(t, got, e, api.ErrWrong, "Decode", name, x, places, i)
				}
			}
		}
	}
}

// P7.4: whatever the symbols at a few points, compared with the words of all messages.
func TestDecodeByAllWords(t *testing.T) {
	for k := 1; k <= 2; k++ {
		xs := []byte{9, 0, 200}
		c := made(t, nil, xs, k)
		messageOf := map[[3]byte][]byte{}
		for a := range 256 {
			for b := range 256 {
				if k == 1 && b > 0 {
					break
				}
				msg := []byte{byte(a), byte(b)}[:k]
				messageOf[[3]byte(word(msg, xs))] = msg
			}
		}
		for seed := range 40000 {
			ys := mixed(seed, 3)
			if seed%4 == 0 {
				ys[2] = ys[1]
			}
			if seed%8 == 0 {
				ys[0] = ys[1]
			}
			got, e := c.Decode([]int{2, 0, 1}, []byte{ys[2], ys[0], ys[1]})
			if msg, ok := messageOf[[3]byte(ys)]; ok {
				right(t, got, e, msg, "Decode", k, ys)
			} else {
				wrong(t, got, e, api.ErrWrong, "Decode", k, ys)
			}
		}
	}
}

// P7.4: each list of exactly K symbols is part of some word.
func TestDecodeAnySymbols(t *testing.T) {
	for _, x := range sampled() {
		c := made(t, nil, x.xs, x.k)
		places := shuffled(x.k, len(x.xs))[:x.k]
		for seed := range 3 {
			ys := mixed(seed, x.k)
			msg, e := c.Decode(places, ys)
			if e != api.OK || len(msg) != x.k || !bytes.Equal(word(msg, at(x.xs, places)), ys) {
				t.Errorf("Decode by %v of %v, %v: %v, %d", x, places, ys, msg, e)
			}
		}
	}
}

// P7.4: ErrArg, also where the symbols are too few, or false, so that another error would hold.
func TestDecodeWrongArguments(t *testing.T) {
	for name, f := range kinds() {
		for _, x := range sampled() {
			c := made(t, f, x.xs, x.k)
			n := len(x.xs)
			refused := func(places []int, ys []byte) {
				t.Helper()
				got, e := c.Decode(places, ys)
				wrong(t, got, e, api.ErrArg, "Decode", name, x, places, ys)
			}
			w := word(mixed(x.k, x.k), x.xs)
			for _, count := range []int{1, x.k - 1, x.k, x.k + 1, n} {
				if count < 1 || count > n {
					continue
				}
				good := shuffled(count, n)[:count]
				for _, ys := range [][]byte{at(w, good), mixed(n, count)} {
					refused(good, ys[:count-1])
					refused(good[:count-1], ys)
					refused(good, append(bytes.Clone(ys), 0))
					refused(good, nil)
					refused(nil, ys)
					refused(good, make([]byte, count+256))
					for _, i := range []int{0, count / 2, count - 1} {
						for _, bad := range []int{-1, -n, -256, math.MinInt, n, n + 1, 256, 257, good[i] + 256, good[i] - 256, 1<<32 + good[i], math.MinInt + good[i], math.MaxInt} {
							places := slices.Clone(good)
							places[i] = bad
							refused(places, ys)
						}
						places := slices.Clone(good)
						places[i] = good[(i+1)%count]
						if count > 1 {
							refused(places, ys)
						}
					}
				}
			}
			more := append(upTo(n), 0)
			refused(more, append(bytes.Clone(w), w[0])) // twice, if with the same symbol
			refused(make([]int, 70000), make([]byte, 70000))
		}
	}
}

// P7.4: two equal places, wherever, are too many, be their symbols equal or not.
func TestDecodeEqualPlaces(t *testing.T) {
	xs := distinct(3, 5)
	for k := 1; k <= 5; k++ {
		c := made(t, nil, xs, k)
		w := word(mixed(k, k), xs)
		for i := range 5 {
			for j := range 5 {
				places := upTo(5)
				places[i] = places[j]
				if i == j {
					continue
				}
				got, e := c.Decode(places, at(w, places))
				wrong(t, got, e, api.ErrArg, "Decode", k, places)
				got, e = c.Decode(places, w)
				wrong(t, got, e, api.ErrArg, "Decode", k, places, w)
			}
		}
	}
}

// P7.5: arguments are left as they were, with what is after their length in their memory.
func TestArgumentsStay(t *testing.T) {
	for name, f := range kinds() {
		for _, x := range sampled() {
			n := len(x.xs)
			xs := append(bytes.Clone(x.xs), 11, 12, 13)
			c := made(t, f, xs[:n], x.k)
			msg := append(mixed(x.k, x.k), 21, 22, 23)
			if _, e := c.Encode(msg[:x.k]); e != api.OK {
				t.Errorf("%s: Encode by %v: %d", name, x, e)
			}
			all := slices.Concat(shuffled(n, n), []int{31, 32, 33})
			ys := append(at(word(msg[:x.k], x.xs), all[:n]), 41, 42, 43)
			for _, count := range []int{0, x.k - 1, x.k, n} {
				c.Decode(all[:count], ys[:count])
			}
			c.Decode(all[:n+1], ys[:n+1])
			c.Encode(msg)
			New(f, xs, x.k)
			if !bytes.Equal(xs, append(bytes.Clone(x.xs), 11, 12, 13)) || !bytes.Equal(msg, append(mixed(x.k, x.k), 21, 22, 23)) ||
				!slices.Equal(all, slices.Concat(shuffled(n, n), []int{31, 32, 33})) || !bytes.Equal(ys, append(at(word(mixed(x.k, x.k), x.xs), all[:n]), 41, 42, 43)) {
				t.Errorf("%s: arguments of %v were changed: %v, %v, %v, %v", name, x, xs, msg, all, ys)
			}
		}
	}
}

// spoil changes a list, and all that is after its length in its memory.
func spoil(b []byte) {
	b = b[:cap(b)]
	for i := range b {
		b[i] ^= 0x5a
	}
}

// P7.5: what the caller changes afterwards, in arguments or in results, changes no later answer.
func TestNothingShared(t *testing.T) {
	for name, f := range kinds() {
		for _, x := range sampled() {
			n := len(x.xs)
			xs := bytes.Clone(x.xs)
			c := made(t, f, xs, x.k)
			other := made(t, f, xs, x.k)
			spoil(xs)
			for round := range 3 {
				msg := mixed(round, x.k)
				w, e := c.Encode(msg)
				right(t, w, e, word(mixed(round, x.k), x.xs), "Encode", name, x, round)
				spoil(w)
				places := shuffled(round, n)
				ys := at(word(msg, x.xs), places)
				got, e := c.Decode(places, ys)
				right(t, got, e, msg, "Decode", name, x, round)
				spoil(got)
				if !bytes.Equal(msg, mixed(round, x.k)) || !bytes.Equal(ys, at(word(msg, x.xs), places)) {
					t.Errorf("%s, %v: a result shares memory with an argument", name, x)
				}
				spoil(msg)
				spoil(ys)
				xs := c.Points()
				if !bytes.Equal(xs, x.xs) || c.K() != x.k || !bytes.Equal(other.Points(), x.xs) {
					t.Errorf("%s: the code of %v has K %d, points %v", name, x, c.K(), xs)
				}
				spoil(xs)
			}
		}
	}
}

// P7.5: exactly K symbols, and K of the number of points, where a result could be an argument itself.
func TestResultsAreNew(t *testing.T) {
	for _, x := range []sample{{[]byte{0}, 1}, {[]byte{1}, 1}, {[]byte{0, 1}, 1}, {[]byte{0, 1}, 2}, {[]byte{1, 2, 4}, 3}} {
		c := made(t, nil, x.xs, x.k)
		msg := make([]byte, x.k)
		msg[0] = 5
		w, _ := c.Encode(msg)
		spoil(w)
		if msg[0] != 5 {
			t.Errorf("%v: a word shares memory with its message", x)
		}
		ys := word(msg, x.xs)[:x.k]
		got, e := c.Decode(upTo(x.k), ys)
		right(t, got, e, msg, "Decode", x)
		spoil(got)
		if !bytes.Equal(ys, word(msg, x.xs)[:x.k]) {
			t.Errorf("%v: a message shares memory with its symbols", x)
		}
	}
}

// P7.6: any K symbols of a word determine the message: each choice of K of a few points.
func TestAnyKSymbols(t *testing.T) {
	const n = 7
	xs := distinct(9, n)
	for k := 1; k <= n; k++ {
		c := made(t, nil, xs, k)
		msg := mixed(k, k)
		w, _ := c.Encode(msg)
		for choice := range 1 << n {
			var places []int
			for i := range n {
				if choice>>i&1 == 1 {
					places = append(places, i)
				}
			}
			if len(places) == k {
				got, e := c.Decode(places, at(w, places))
				right(t, got, e, msg, "Decode", k, places)
			}
		}
	}
}

// P7.6: the words of two messages are equal at fewer than K points; there are two that are equal at any K - 1.
func TestWordsDiffer(t *testing.T) {
	for _, x := range sampled() {
		c := made(t, nil, x.xs, x.k)
		zero := make([]byte, x.k)
		for i, a := range append(messages(x.k), zero) {
			for _, b := range append(messages(x.k), zero)[:i] {
				one, _ := c.Encode(a)
				two, _ := c.Encode(b)
				same := 0
				for i := range one {
					if one[i] == two[i] {
						same++
					}
				}
				if !bytes.Equal(a, b) && same >= x.k {
					t.Errorf("%v: the words of %v and %v are equal at %d points", x, a, b, same)
				}
			}
		}
		places := shuffled(x.k, len(x.xs))[:x.k]
		ys := make([]byte, x.k)
		ys[x.k-1] = 1 // all others are those of the word 0
		msg, e := c.Decode(places, ys)
		if w, _ := c.Encode(msg); e != api.OK || bytes.Equal(msg, zero) || !bytes.Equal(at(w, places), ys) {
			t.Errorf("%v: no message is 0 at K - 1 of %v alone: %v, %d", x, places, msg, e)
		}
	}
}

// P7.6: the word of a sum of messages is the sum of their words.
func TestSums(t *testing.T) {
	for name, f := range kinds() {
		for _, x := range sampled() {
			c := made(t, f, x.xs, x.k)
			for _, a := range messages(x.k) {
				for _, b := range messages(x.k)[4:] {
					one, _ := c.Encode(a)
					two, _ := c.Encode(b)
					both, e := c.Encode(sum(a, b))
					right(t, both, e, sum(one, two), "Encode", name, x, a, b)
				}
			}
		}
	}
}

// The rules for results: calls at once, of one code and of one field, have the results of calls one by one.
func TestAtOnce(t *testing.T) {
	for name, f := range kinds() {
		xs := distinct(7, 20)
		c := made(t, f, xs, 9)
		var all sync.WaitGroup
		for seed := range 8 {
			all.Go(func() {
				own := made(t, f, xs, 9)
				for _, c := range []*Code{c, own} {
					msg := mixed(seed, 9)
					w, e := c.Encode(msg)
					right(t, w, e, word(msg, xs), "Encode", name, seed)
					places := shuffled(seed, 20)
					got, e := c.Decode(places, at(w, places))
					right(t, got, e, msg, "Decode", name, seed)
					if c.K() != 9 || !bytes.Equal(c.Points(), xs) || c.Field() == nil {
						t.Errorf("%s: K %d, points %v", name, c.K(), c.Points())
					}
				}
			})
		}
		all.Wait()
	}
}
