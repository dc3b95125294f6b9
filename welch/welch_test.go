package welch

import (
	"bytes"
	"math"
	"slices"
	"sync"
	"testing"

	"starfish/api"
	"starfish/field"
	"starfish/reed"
)

// products are those of all pairs of elements, made once for all tests.
var products = func() (all [256][256]byte) {
	for a := range all {
		for b := range all {
			all[a][b] = product(byte(a), byte(b))
		}
	}
	return all
}()

// product multiplies bytes as polynomials, and takes the remainder, as the definition of the field says.
func product(a, b byte) byte {
	rest := 0
	for i := range 8 {
		if b>>i&1 == 1 {
			rest ^= int(a) << i
		}
	}
	for power := 14; power >= 8; power-- {
		if rest>>power&1 == 1 {
			rest ^= 285 << (power - 8)
		}
	}
	return byte(rest)
}

// word adds up the coefficients of a message times the powers of each point.
func word(msg, xs []byte) []byte {
	out := make([]byte, len(xs))
	for i, x := range xs {
		power := byte(1)
		for _, coefficient := range msg {
			out[i] ^= products[coefficient][power]
			power = products[power][x]
		}
	}
	return out
}

// mixed returns n bytes that follow no plain pattern, the same for the same seed.
func mixed(seed, n int) []byte {
	b := make([]byte, n)
	state := uint32(seed)*2654435761 + 1
	for i := range b {
		state = state*1664525 + 1013904223
		b[i] = byte(state >> 24)
	}
	return b
}

// upTo returns the first n numbers.
func upTo(n int) []int {
	out := make([]int, n)
	for i := range out {
		out[i] = i
	}
	return out
}

// shuffled returns the first n numbers, in an order that follows no plain pattern.
func shuffled(seed, n int) []int {
	out := upTo(n)
	for i, b := range mixed(seed, n) {
		j := int(b) % n
		out[i], out[j] = out[j], out[i]
	}
	return out
}

// downFrom returns the first n numbers, the greatest first.
func downFrom(n int) []int {
	out := upTo(n)
	slices.Reverse(out)
	return out
}

// distinct returns n different points in a mixed order.
func distinct(seed, n int) []byte {
	var out []byte
	for _, i := range shuffled(seed, 256)[:n] {
		out = append(out, byte(i))
	}
	return out
}

// picked returns those of b at these places.
func picked(b []byte, places []int) []byte {
	out := make([]byte, 0, len(places))
	for _, i := range places {
		out = append(out, b[i])
	}
	return out
}

// ascending returns the numbers in their order by size.
func ascending(numbers []int) []int {
	out := slices.Clone(numbers)
	slices.Sort(out)
	return out
}

// changed returns a word with other symbols at these places.
func changed(w []byte, places []int, seed int) []byte {
	out := bytes.Clone(w)
	for i, place := range places {
		out[place] ^= []byte{1, 128, 255, 77, w[place]}[(seed+i)%5]
		if out[place] == w[place] {
			out[place]++
		}
	}
	return out
}

// sample is a code's points and K.
type sample struct {
	xs []byte
	k  int
}

// small are codes of few points, with and without the point 0, of each K.
func small() []sample {
	var out []sample
	for _, xs := range [][]byte{{0}, {1}, {255}, {0, 1}, {7, 0}, {1, 2, 4}, {1, 2, 4, 8}, {5, 0, 9, 200, 3}, {1, 2, 4, 8, 16, 32}, distinct(2, 9), {0, 1, 2, 3, 4, 5, 6, 7, 8, 9, 10, 11}} {
		for k := 1; k <= len(xs); k++ {
			out = append(out, sample{xs, k})
		}
	}
	return out
}

// large are codes of many points, up to all elements of the field, with a K at the edges and between.
func large() []sample {
	var out []sample
	for _, n := range []int{40, 255, 256} {
		for _, k := range []int{1, 2, n / 3, n - 5, n - 2, n - 1, n} {
			out = append(out, sample{distinct(n, n), k})
		}
	}
	return out
}

// messages of k bytes: zeros, only one end that is not, only ones, mixed ones.
func messages(k int) [][]byte {
	first, last := make([]byte, k), make([]byte, k)
	first[0], last[k-1] = 201, 77
	return [][]byte{make([]byte, k), first, last, bytes.Repeat([]byte{1}, k), mixed(k, k), mixed(k+1, k)}
}

// made returns the code, which must exist.
func made(t *testing.T, f *field.Field, x sample) *reed.Code {
	t.Helper()
	c, e := reed.New(f, x.xs, x.k)
	if c == nil || e != api.OK {
		t.Fatalf("no code of %v: %d", x, e)
	}
	return c
}

// orders are places of all of n points, and of only so many of them, in several orders.
func orders(n, count int) [][]int {
	out := [][]int{upTo(n), downFrom(n), shuffled(n, n)}
	if count < n {
		out = append(out, upTo(n)[:count], downFrom(n)[:count], shuffled(n+1, n)[:count])
	}
	return out
}

// right reports a result of Decode, or of Word, that is not this message, and these places.
func right(t *testing.T, c *reed.Code, x sample, places []int, ys []byte, most int, msg []byte, at []int) {
	t.Helper()
	got, wrong, e := Decode(c, places, ys, most)
	if e != api.OK || !bytes.Equal(got, msg) || !slices.Equal(wrong, at) {
		t.Errorf("Decode by %v of %v, %v, %d: %v, %v, %d, want %v, %v", x, places, ys, most, got, wrong, e, msg, at)
	}
	all, e := Word(c, places, ys, most)
	if want := word(msg, x.xs); e != api.OK || !bytes.Equal(all, want) {
		t.Errorf("Word by %v of %v, %v, %d: %v, %d, want %v", x, places, ys, most, all, e, want)
	}
}

// refused reports a result of Decode, or of Word, that is not this error alone.
func refused(t *testing.T, c *reed.Code, places []int, ys []byte, most int, want api.Errno) {
	t.Helper()
	if msg, wrong, e := Decode(c, places, ys, most); e != want || len(msg) != 0 || len(wrong) != 0 {
		t.Errorf("Decode of %v, %v, %d: %v, %v, %d, want the error %d", places, ys, most, msg, wrong, e, want)
	}
	if all, e := Word(c, places, ys, most); e != want || len(all) != 0 {
		t.Errorf("Word of %v, %v, %d: %v, %d, want the error %d", places, ys, most, all, e, want)
	}
}

// Examples.
func TestExamples(t *testing.T) {
	x := sample{[]byte{1, 2, 4, 8}, 2}
	for _, f := range []*field.Field{field.New(), nil, {}} {
		c := made(t, f, x)
		right(t, c, x, upTo(4), []byte{6, 5, 3, 15}, 1, []byte{7, 1}, nil)
		right(t, c, x, upTo(4), []byte{6, 9, 3, 15}, 1, []byte{7, 1}, []int{1})
		refused(t, c, upTo(3), []byte{6, 5, 3}, 1, api.ErrFew)
		refused(t, c, upTo(4), []byte{0, 0, 1, 1}, 1, api.ErrLost)
	}
	if n := Far([]byte{1, 2}, []byte{1, 3, 4}); n != 2 {
		t.Errorf("Far of 1 2, 1 3 4: %d", n)
	}
}

// P8.1, P8.2, P8.5: each number of wrong symbols up to t, in exactly K plus twice t symbols, and in all, in any order.
func TestDecode(t *testing.T) {
	for _, x := range small() {
		n := len(x.xs)
		c := made(t, nil, x)
		for most := 0; x.k+2*most <= n; most++ {
			for i, msg := range messages(x.k) {
				w := word(msg, x.xs)
				for j, places := range orders(n, x.k+2*most) {
					for count := range most + 1 {
						at := picks(places, count, i+j)
						right(t, c, x, places, picked(changed(w, at, i+j), places), most, msg, ascending(at))
					}
				}
			}
		}
	}
}

// picks returns so many of the places, in a mixed order, others for another seed.
func picks(places []int, count, seed int) []int {
	var out []int
	for _, i := range shuffled(seed, len(places))[:count] {
		out = append(out, places[i])
	}
	return out
}

// P8.1, P8.5: many points, up to all elements of the field.
func TestDecodeLarge(t *testing.T) {
	for _, x := range large() {
		n := len(x.xs)
		c := made(t, field.New(), x)
		for _, most := range []int{0, 1, 2, 7, 30} {
			if x.k+2*most > n {
				continue
			}
			msg := mixed(most, x.k)
			w := word(msg, x.xs)
			for i, places := range [][]int{downFrom(n), shuffled(most, n)[:x.k+2*most]} {
				for _, count := range []int{0, most / 2, most} {
					at := picks(places, count, i+most)
					right(t, c, x, places, picked(changed(w, at, most), places), most, msg, ascending(at))
				}
			}
		}
	}
}

// P8.1, P8.5: as many as half of the symbols are wrong, for K 1 and the most points that there are.
func TestDecodeHalf(t *testing.T) {
	for _, n := range []int{255, 256} {
		x := sample{distinct(n, n), 1}
		c := made(t, field.New(), x)
		most := (n - 1) / 2
		at := picks(upTo(n), most, n)
		ys := changed(word([]byte{9}, x.xs), at, 0)
		right(t, c, x, upTo(n), ys, most, []byte{9}, ascending(at))
		refused(t, c, upTo(n), ys, most+1, api.ErrFew)
	}
}

// P8.1: each choice of wrong places of a few points.
func TestDecodeEachChoice(t *testing.T) {
	const n = 7
	for k := 1; k <= n; k++ {
		x := sample{[]byte{9, 0, 255, 29, 1, 2, 130}, k}
		c := made(t, nil, x)
		msg := mixed(k, k)
		w := word(msg, x.xs)
		for choice := range 1 << n {
			var at []int
			for i := range n {
				if choice>>i&1 == 1 {
					at = append(at, i)
				}
			}
			for most := len(at); k+2*most <= n; most++ {
				places := shuffled(choice, n)
				right(t, c, x, places, picked(changed(w, at, choice), places), most, msg, at)
			}
			if len(at) > 0 && k+2*len(at) <= n+1 { // so far from its word that no other one is near
				refused(t, c, upTo(n), changed(w, at, choice), len(at)-1, api.ErrLost)
			}
		}
	}
}

// P8.1: exactly t wrong symbols, and one more.
func TestDecodeOneMore(t *testing.T) {
	for _, x := range append(small(), large()...) {
		n := len(x.xs)
		if n == 256 && x.k < 200 {
			continue
		}
		c := made(t, nil, x)
		for most := 0; x.k+2*most+1 <= n && most < 9; most++ {
			msg := mixed(most, x.k)
			for _, places := range [][]int{upTo(n), shuffled(most, n)[:x.k+2*most+1]} {
				at := picks(places, most+1, most)
				ys := picked(changed(word(msg, x.xs), at[:most], most), places)
				right(t, c, x, places, ys, most, msg, ascending(at[:most]))
				refused(t, c, places, picked(changed(word(msg, x.xs), at, most), places), most, api.ErrLost)
			}
		}
	}
}

// wordsOf returns the words of all messages of k bytes, in the order of these as numbers.
func wordsOf(x sample) [][]byte {
	var out [][]byte
	for i := range 1 << (8 * x.k) {
		out = append(out, word([]byte{byte(i), byte(i >> 8)}[:x.k], x.xs))
	}
	return out
}

// differ returns the places of symbols that are not those of a word.
func differ(w []byte, places []int, ys []byte) []int {
	var out []int
	for i, place := range places {
		if w[place] != ys[i] {
			out = append(out, place)
		}
	}
	return ascending(out)
}

// nearest compares symbols with the words of all messages, and returns the first one of those with the fewest wrong symbols, and where these are.
func nearest(words [][]byte, places []int, ys []byte) (int, []int) {
	best, fewest := 0, len(ys)+1
	for i, w := range words {
		count := 0
		for j, place := range places {
			if w[place] != ys[j] {
				count++
			}
		}
		if count < fewest {
			best, fewest = i, count
		}
	}
	return best, differ(words[best], places, ys)
}

// P8.1: whatever the symbols, compared with the words of all messages.
func TestDecodeByAllWords(t *testing.T) {
	for _, x := range []sample{{[]byte{9}, 1}, {[]byte{3, 0}, 1}, {[]byte{1, 2, 4}, 1}, {[]byte{6, 1, 0, 255, 90}, 1}, {distinct(1, 8), 1}, {[]byte{0, 7}, 2}, {[]byte{1, 2, 4, 8}, 2}, {[]byte{5, 0, 9, 200, 3}, 2}, {distinct(5, 7), 2}} {
		n := len(x.xs)
		words := wordsOf(x)
		c := made(t, nil, x)
		lost := 0
		for seed := range 300 {
			count := x.k + seed%(n-x.k+1)
			places := shuffled(seed, n)[:count]
			// Symbols of few kinds, and those that two words share, are near to a word more often.
			ys := mixed(seed, count)
			one, two := words[seed*7919%len(words)], words[seed*104729%len(words)]
			for i := range ys {
				switch seed % 4 {
				case 0:
					ys[i] %= 2
				case 1, 2:
					ys[i] = [][]byte{one, two, ys[i:]}[int(ys[i])%(2+seed%2)][0]
				}
				if seed%4 == 2 || seed%4 == 1 && i > count/2 {
					ys[i] = [][]byte{one, two}[(i*seed>>2)%2][places[i]]
				}
			}
			best, wrong := nearest(words, places, ys)
			for most := range n + 1 {
				switch {
				case x.k+2*most > count:
					refused(t, c, places, ys, most, api.ErrFew)
				case len(wrong) <= most:
					right(t, c, x, places, ys, most, []byte{byte(best), byte(best >> 8)}[:x.k], wrong)
				default:
					lost++
					refused(t, c, places, ys, most, api.ErrLost)
				}
			}
		}
		if lost == 0 && n > x.k {
			t.Errorf("%v: no symbols were lost", x)
		}
	}
}

// P8.1: all symbols of a small set, in each combination, compared with the words of all messages.
func TestDecodeEachWord(t *testing.T) {
	kinds := []byte{0, 1, 2, 200}
	for _, x := range []sample{{[]byte{0, 1, 2, 4, 9}, 1}, {[]byte{1, 2, 4, 8}, 2}} {
		n := len(x.xs)
		words := wordsOf(x)
		c := made(t, nil, x)
		for choice := range 1 << (2 * n) {
			ys := make([]byte, n)
			for i := range ys {
				ys[i] = kinds[choice>>(2*i)&3]
			}
			best, wrong := nearest(words, upTo(n), ys)
			for most := 0; x.k+2*most <= n; most++ {
				if len(wrong) <= most {
					right(t, c, x, upTo(n), ys, most, []byte{byte(best), byte(best >> 8)}[:x.k], wrong)
				} else {
					refused(t, c, upTo(n), ys, most, api.ErrLost)
				}
			}
		}
	}
}

// P8.1: symbols of no plain pattern, just enough of them, for K 1, where the word of a message is one symbol over and over: if none is there more than t times, they are lost.
func TestDecodeMixed(t *testing.T) {
	for _, n := range []int{3, 5, 9, 31, 61} {
		x := sample{distinct(n, n), 1}
		c := made(t, field.New(), x)
		most := (n - 1) / 2
		for seed := range 60 {
			ys := mixed(seed, n)
			var counts [256]int
			for _, y := range ys {
				counts[y]++
			}
			msg := byte(slices.Index(counts[:], slices.Max(counts[:])))
			if counts[msg] > most {
				t.Fatalf("%v: too many are %d", ys, msg)
			}
			refused(t, c, shuffled(seed, n), ys, most, api.ErrLost)
			for i := range ys { // now there are just enough
				if counts[msg] > most {
					break
				}
				if ys[i] != msg {
					ys[i] = msg
					counts[msg]++
				}
			}
			right(t, c, x, upTo(n), ys, most, []byte{msg}, differ(word([]byte{msg}, x.xs), upTo(n), ys))
		}
	}
}

// twins returns two messages of k bytes whose words are equal at the first k - 1 of the points, and nowhere else.
func twins(k int, xs []byte) ([]byte, []byte) {
	one := mixed(k, k)
	between := []byte{1} // the product of all x + xs[i]
	for _, x := range xs[:k-1] {
		next := append([]byte{0}, between...)
		for i, coefficient := range between {
			next[i] ^= products[coefficient][x]
		}
		between = next
	}
	two := bytes.Clone(one)
	for i := range two {
		two[i] ^= products[between[i]][77]
	}
	return one, two
}

// P8.1: words that lie between those of two messages, which are as near to each other as any.
func TestDecodeBetween(t *testing.T) {
	for _, x := range append(small(), sample{distinct(3, 40), 11}, sample{distinct(4, 255), 250}) {
		n := len(x.xs)
		c := made(t, nil, x)
		one, two := twins(x.k, x.xs)
		first, second := word(one, x.xs), word(two, x.xs)
		apart := n - x.k + 1
		if got := len(differ(first, upTo(n), second)); got != apart {
			t.Fatalf("%v: the words of %v and %v differ at %d points", x, one, two, got)
		}
		for count := range apart + 1 { // so many symbols where they differ are those of the second one
			ys := slices.Concat(first[:x.k-1+apart-count], second[x.k-1+apart-count:])
			fromOne, fromTwo := upTo(n)[n-count:], upTo(n)[x.k-1:n-count]
			for most := 0; x.k+2*most <= n; most++ {
				switch {
				case count <= most:
					right(t, c, x, upTo(n), ys, most, one, fromOne)
				case apart-count <= most:
					right(t, c, x, upTo(n), ys, most, two, fromTwo)
				default: // so far from the first one that no other one is near
					refused(t, c, upTo(n), ys, most, api.ErrLost)
				}
			}
		}
	}
}

// P8.1: in the middle between two words, as far from both as can be, no message is told.
func TestDecodeMiddle(t *testing.T) {
	for _, x := range []sample{{[]byte{1, 2}, 1}, {[]byte{0, 1}, 1}, {[]byte{4, 3, 2, 1}, 1}, {[]byte{1, 2, 4}, 2}, {[]byte{1, 2, 4, 8, 0}, 2}, {distinct(2, 7), 4}, {distinct(3, 41), 10}} {
		n := len(x.xs)
		c := made(t, nil, x)
		one, two := twins(x.k, x.xs)
		first, second := word(one, x.xs), word(two, x.xs)
		half := (n - x.k + 1) / 2
		ys := slices.Concat(first[:n-half], second[n-half:])
		refused(t, c, upTo(n), ys, half-1, api.ErrLost)
		refused(t, c, upTo(n), ys, half, api.ErrFew)
		ys[n-half] = first[n-half] // now one symbol nearer to the first one
		right(t, c, x, upTo(n), ys, half-1, one, upTo(n)[n-half+1:])
	}
}

// P8.1: all symbols are wrong: they are lost, or those of another word.
func TestDecodeAllWrong(t *testing.T) {
	for _, x := range small() {
		n := len(x.xs)
		c := made(t, nil, x)
		msg := mixed(x.k, x.k)
		other := bytes.Clone(msg)
		other[0] ^= 5 // so each symbol differs
		w := word(msg, x.xs)
		for most := 0; x.k+2*most <= n; most++ {
			right(t, c, x, downFrom(n), picked(word(other, x.xs), downFrom(n)), most, other, nil)
			if x.k == 1 {
				ys := bytes.Clone(w)
				for i := range ys {
					ys[i] ^= byte(i + 1) // each one that of another message
				}
				if most < n-1 {
					refused(t, c, upTo(n), ys, most, api.ErrLost)
				} else {
					right(t, c, x, upTo(n), ys, most, ys, nil)
				}
			}
		}
	}
}

// P8.1: exactly K plus twice t symbols, one fewer, and none.
func TestDecodeFew(t *testing.T) {
	for _, x := range append(small(), large()...) {
		n := len(x.xs)
		c := made(t, nil, x)
		w := word(mixed(1, x.k), x.xs)
		for _, most := range []int{0, 1, 2, n/2 - 1, n / 2, n, 2 * n} {
			if most < 0 {
				continue
			}
			enough := x.k + 2*most
			for _, count := range []int{0, 1, 2*most - 1, 2 * most, x.k, enough - 2, enough - 1, n} {
				if count < 0 || count >= enough || count > n {
					continue
				}
				places := shuffled(count, n)[:count]
				refused(t, c, places, picked(w, places), most, api.ErrFew)
				refused(t, c, places, mixed(2, count), most, api.ErrFew) // symbols of no word, too
			}
			if enough <= n {
				places := shuffled(most, n)[:enough]
				right(t, c, x, places, picked(w, places), most, mixed(1, x.k), nil)
			}
			refused(t, c, nil, nil, most, api.ErrFew)
			refused(t, c, []int{}, []byte{}, most, api.ErrFew)
		}
	}
}

// P8.1: a t far above all limits, some of which are small again if only their low bits are taken, or if they are doubled.
func TestDecodeHugeT(t *testing.T) {
	for _, x := range append(small(), sample{distinct(3, 256), 1}, sample{distinct(3, 256), 256}) {
		n := len(x.xs)
		c := made(t, nil, x)
		w := word(mixed(1, x.k), x.xs)
		for _, most := range []int{n, 256, 1 << 16, 1 << 31, 1<<31 + 1, 1 << 32, 1<<32 + 1, 1 << 61, 1 << 62, 1<<62 + 1, math.MaxInt - 1, math.MaxInt, math.MaxInt / 2, math.MaxInt/2 + 1, math.MaxInt - x.k, (math.MaxInt - x.k) / 2, (math.MaxInt-x.k)/2 + 1} {
			refused(t, c, upTo(n), w, most, api.ErrFew)
			refused(t, c, nil, nil, most, api.ErrFew)
		}
	}
}

// P8.1: a t below 0, also where the symbols are too few, or wrong.
func TestDecodeNegativeT(t *testing.T) {
	for _, x := range small() {
		n := len(x.xs)
		c := made(t, nil, x)
		w := word(mixed(1, x.k), x.xs)
		for _, most := range []int{-1, -2, -n, -x.k, -256, math.MinInt32, -1 << 32, -1 << 62, -1<<62 - 1, math.MinInt + 1, math.MinInt} {
			for _, count := range []int{0, x.k - 1, x.k, n} {
				refused(t, c, upTo(count), w[:count], most, api.ErrArg)
				refused(t, c, upTo(count), mixed(3, count), most, api.ErrArg)
			}
			refused(t, c, nil, nil, most, api.ErrArg)
			refused(t, c, []int{-1}, nil, most, api.ErrArg)
		}
	}
}

// P8.1: places that are no indices, or there twice, and lists of different lengths, also where another error would hold.
func TestDecodeWrongArguments(t *testing.T) {
	for _, x := range append(small(), sample{distinct(3, 256), 250}) {
		n := len(x.xs)
		c := made(t, nil, x)
		w := word(mixed(x.k, x.k), x.xs)
		for _, count := range []int{1, x.k - 1, x.k, x.k + 1, n} {
			if count < 1 || count > n {
				continue
			}
			good := shuffled(count, n)[:count]
			for _, most := range []int{0, 1, (count - x.k) / 2, 1000, math.MaxInt} {
				most = max(most, 0)
				for _, ys := range [][]byte{picked(w, good), mixed(n, count)} {
					no := func(places []int, ys []byte) {
						t.Helper()
						refused(t, c, places, ys, most, api.ErrArg)
					}
					no(good, ys[:count-1])
					no(good[:count-1], ys)
					no(good, append(bytes.Clone(ys), 0))
					no(good, nil)
					no(nil, ys)
					no(good, make([]byte, count+256))
					for _, i := range []int{0, count / 2, count - 1} {
						for _, bad := range []int{-1, -n, -256, math.MinInt, n, n + 1, 256, 257, good[i] + 256, good[i] - 256, 1<<32 + good[i], math.MinInt + good[i], math.MaxInt} {
							places := slices.Clone(good)
							places[i] = bad
							no(places, ys)
						}
						places := slices.Clone(good)
						places[i] = good[(i+1)%count]
						if count > 1 {
							no(places, ys)
						}
					}
				}
			}
		}
		for _, most := range []int{0, math.MaxInt} {
			refused(t, c, append(upTo(n), 0), append(bytes.Clone(w), w[0]), most, api.ErrArg) // twice, if with the same symbol
			refused(t, c, make([]int, 70000), make([]byte, 70000), most, api.ErrArg)
			refused(t, c, upTo(70000), make([]byte, 70000), most, api.ErrArg)
		}
	}
}

// P8.1: two equal places, wherever they are, be their symbols equal or not.
func TestDecodeEqualPlaces(t *testing.T) {
	for k := 1; k <= 5; k++ {
		x := sample{distinct(3, 5), k}
		c := made(t, nil, x)
		w := word(mixed(k, k), x.xs)
		for i := range 5 {
			for j := range 5 {
				if i == j {
					continue
				}
				places := upTo(5)
				places[i] = places[j]
				refused(t, c, places, picked(w, places), 0, api.ErrArg)
				refused(t, c, places, w, 0, api.ErrArg)
				refused(t, c, places, w, 1, api.ErrArg)
			}
		}
	}
}

// P8.1, P8.2: without a code, whatever the other arguments; a code that New did not make works like a nil one.
func TestNoCode(t *testing.T) {
	for _, c := range []*reed.Code{nil, {}} {
		for _, most := range []int{math.MinInt, -1, 0, 1, math.MaxInt} {
			refused(t, c, nil, nil, most, api.ErrNil)
			refused(t, c, []int{}, []byte{}, most, api.ErrNil)
			refused(t, c, upTo(4), []byte{6, 5, 3, 15}, most, api.ErrNil)
			refused(t, c, []int{-1, -1}, []byte{1, 2}, most, api.ErrNil)
			refused(t, c, upTo(4), nil, most, api.ErrNil)
		}
	}
}

// P8.5: the result is the same for each greater t for which there are enough symbols.
func TestGreaterT(t *testing.T) {
	for _, x := range []sample{{distinct(1, 30), 1}, {distinct(2, 30), 2}, {distinct(3, 30), 10}, {distinct(4, 30), 27}} {
		n := len(x.xs)
		c := made(t, nil, x)
		msg := mixed(n, x.k)
		for count := 0; x.k+2*count <= n; count++ {
			at := picks(upTo(n), count, count)
			ys := changed(word(msg, x.xs), at, count)
			for most := range n {
				switch {
				case x.k+2*most > n:
					refused(t, c, upTo(n), ys, most, api.ErrFew)
				case most < count:
					refused(t, c, upTo(n), ys, most, api.ErrLost)
				default:
					right(t, c, x, upTo(n), ys, most, msg, ascending(at))
				}
			}
		}
	}
}

// P8.1: the wrong places are ascending, in whatever order the symbols are.
func TestWrongPlacesAscending(t *testing.T) {
	x := sample{[]byte{1, 2, 4, 8, 16, 0}, 2}
	c := made(t, nil, x)
	ys := changed(word([]byte{200, 3}, x.xs), []int{1, 4}, 0)
	var grow func(places []int)
	grow = func(places []int) {
		if len(places) == 6 {
			right(t, c, x, places, picked(ys, places), 2, []byte{200, 3}, []int{1, 4})
		}
		for i := range 6 {
			if !slices.Contains(places, i) {
				grow(append(slices.Clone(places), i))
			}
		}
	}
	grow(nil)
}

// P8.1: a wrong symbol at the point 0, and one that is 0 although it should not be.
func TestNought(t *testing.T) {
	for k := 1; k <= 4; k++ {
		for at := range 6 {
			x := sample{[]byte{3, 7, 1, 250, 9, 12}, k}
			x.xs[at] = 0
			c := made(t, nil, x)
			msg := mixed(k+1, k)
			for i := range 6 {
				ys := word(msg, x.xs)
				if ys[i] == 0 {
					ys[i] = 1
				} else {
					ys[i] = 0
				}
				right(t, c, x, upTo(6), ys, 1, msg, []int{i})
			}
			zero := make([]byte, 6)
			zero[at] = 77
			right(t, c, x, upTo(6), zero, 1, make([]byte, k), []int{at})
		}
	}
}

// P8.2: the word has the symbols of all points, also of those from which there is none, and of the wrong ones.
func TestWord(t *testing.T) {
	x := sample{[]byte{1, 2, 4, 8, 16, 32, 64}, 2}
	c := made(t, nil, x)
	got, e := Word(c, []int{6, 1, 3, 4}, picked(changed(word([]byte{7, 1}, x.xs), []int{3}, 0), []int{6, 1, 3, 4}), 1)
	if want := []byte{7 ^ 1, 7 ^ 2, 7 ^ 4, 7 ^ 8, 7 ^ 16, 7 ^ 32, 7 ^ 64}; e != api.OK || !bytes.Equal(got, want) {
		t.Errorf("%v, %d, want %v", got, e, want)
	}
}

// P8.3: lists of any lengths, also of different ones, and empty ones.
func TestFar(t *testing.T) {
	for _, x := range []struct {
		a, b []byte
		want int
	}{
		{nil, nil, 0}, {[]byte{}, nil, 0}, {[]byte{}, []byte{}, 0}, {nil, []byte{0}, 1}, {nil, []byte{0, 0, 7}, 3}, {[]byte{0}, []byte{0}, 0}, {[]byte{0}, []byte{1}, 1},
		{[]byte{1, 2}, []byte{1, 3, 4}, 2}, {[]byte{1, 2, 3}, []byte{1, 2, 3, 0}, 1}, {[]byte{1, 2, 3}, []byte{3, 1, 2}, 3}, {[]byte{1, 2, 3}, []byte{2, 3}, 3}, {[]byte{5, 5}, []byte{5, 5, 5, 5, 5}, 3},
		{[]byte{1, 128, 255}, []byte{0, 0, 127}, 3}, {make([]byte, 70000), make([]byte, 3), 69997}, {bytes.Repeat([]byte{1}, 70000), make([]byte, 70001), 70001},
	} {
		if got := Far(x.a, x.b); got != x.want {
			t.Errorf("Far of %d and %d bytes: %d, want %d", len(x.a), len(x.b), got, x.want)
		}
		if got := Far(x.b, x.a); got != x.want {
			t.Errorf("Far of %d and %d bytes, the longer one first: %d, want %d", len(x.b), len(x.a), got, x.want)
		}
	}
}

// P8.3: each number of differences, at the beginning and at the end, of lists with others after their lengths.
func TestFarCounts(t *testing.T) {
	for n := range 40 {
		a := mixed(n, n+9)
		for count := range n + 1 {
			for _, at := range [][]int{upTo(n)[:count], upTo(n)[n-count:]} {
				b := changed(a, at, count)
				b = append(b[:n], mixed(1, 30)...)
				for more := range 9 {
					if got := Far(a[:n], b[:n+more]); got != count+more {
						t.Errorf("%d differences of %d, %d more: %d", count, n, more, got)
					}
					if got := Far(b[:n+more], a[:n]); got != count+more {
						t.Errorf("%d differences of %d, %d more first: %d", count, n, more, got)
					}
				}
			}
		}
	}
}

// P8.4: arguments are left as they were, with what is after their length in their memory.
func TestArgumentsStay(t *testing.T) {
	for _, x := range small() {
		n := len(x.xs)
		c := made(t, nil, x)
		msg := mixed(n, x.k)
		for most := 0; x.k+2*most <= n; most++ {
			for count := range most + 2 {
				if count > n {
					continue
				}
				where := append(shuffled(n, n), 31, 32, 33, 34, 35, 36, 37, 38, 39)
				w := changed(word(msg, x.xs), picks(upTo(n), count, count), most)
				ys := append(picked(w, where[:n]), 41, 42, 43, 44, 45, 46, 47, 48, 49)
				places, symbols := slices.Clone(where), bytes.Clone(ys)
				Decode(c, where[:n], ys[:n], most)
				Word(c, where[:n], ys[:n], most)
				Decode(c, where[:n], ys[:n], most+n)
				Decode(c, where[:n+1], ys[:n+1], most)
				Decode(c, where[:n], ys[:n], -1)
				Far(ys[:n], ys[1:n])
				if !slices.Equal(where, places) || !bytes.Equal(ys, symbols) {
					t.Errorf("%v, %d: arguments were changed: %v, %v", x, most, where, ys)
				}
				if !bytes.Equal(c.Points(), x.xs) || c.K() != x.k {
					t.Errorf("%v: the code was changed", x)
				}
			}
		}
	}
}

// spoil changes a list, and all that is after its length in its memory.
func spoil[E byte | int](list []E) {
	list = list[:cap(list)]
	for i := range list {
		list[i] ^= 0x5a
	}
}

// P8.4: what the caller changes afterwards, in arguments or in results, changes nothing else, and no later answer.
func TestNothingShared(t *testing.T) {
	for _, x := range small() {
		n := len(x.xs)
		c := made(t, nil, x)
		for most := 0; x.k+2*most <= n; most++ {
			for count := range most + 1 {
				for _, order := range [][]int{upTo(n), shuffled(n, n)} {
					want := mixed(count, x.k)
					at := picks(upTo(n), count, most)
					w := changed(word(want, x.xs), at, most)
					places, ys := slices.Clone(order), picked(w, order)
					one, wrong, _ := Decode(c, places, ys, most)
					two, others, _ := Decode(c, places, ys, most)
					all, _ := Word(c, places, ys, most)
					again, _ := Word(c, places, ys, most)
					spoil(one)
					spoil(wrong)
					spoil(all)
					if !slices.Equal(places, order) || !bytes.Equal(ys, picked(w, order)) {
						t.Errorf("%v, %d: a result shares memory with an argument", x, most)
					}
					spoil(places)
					spoil(ys)
					if !bytes.Equal(two, want) || !slices.Equal(others, ascending(at)) || !bytes.Equal(again, word(want, x.xs)) {
						t.Errorf("%v, %d: a result shares memory with another one, or with an argument: %v, %v, %v", x, most, two, others, again)
					}
					right(t, c, x, order, picked(w, order), most, want, ascending(at))
				}
			}
		}
	}
}

// The rules for results: calls at once, of one code, have the results of calls one by one.
func TestAtOnce(t *testing.T) {
	x := sample{distinct(7, 20), 6}
	c := made(t, nil, x)
	var all sync.WaitGroup
	for seed := range 8 {
		all.Go(func() {
			msg := mixed(seed, 6)
			at := picks(upTo(20), seed, seed)
			places := shuffled(seed, 20)
			ys := picked(changed(word(msg, x.xs), at, seed), places)
			right(t, c, x, places, ys, 7, msg, ascending(at))
		})
	}
	all.Wait()
}
