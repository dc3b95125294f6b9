package fields

import (
	"bytes"
	"math"
	"slices"
	"testing"
)

// step is a field: its size (0 for bytes), and what it holds.
type step struct {
	size int
	n    uint64
	raw  []byte
}

// bytesOf returns a field as the definition says, without the package.
func bytesOf(s step) []byte {
	if s.size == 0 {
		return s.raw
	}
	out := make([]byte, s.size)
	rest := s.n
	for i := s.size - 1; i >= 0; i-- {
		out[i] = byte(rest % 256)
		rest /= 256
	}
	return out
}

// put appends a field.
func put(w *Writer, s step) {
	switch s.size {
	case 1:
		w.Byte(uint8(s.n))
	case 2:
		w.Short(uint16(s.n))
	case 4:
		w.Word(uint32(s.n))
	case 8:
		w.Long(s.n)
	default:
		w.Raw(s.raw)
	}
}

// get reads a field of the kind of s.
func get(r *Reader, s step) step {
	switch s.size {
	case 1:
		return step{size: 1, n: uint64(r.Byte())}
	case 2:
		return step{size: 2, n: uint64(r.Short())}
	case 4:
		return step{size: 4, n: uint64(r.Word())}
	case 8:
		return step{size: 8, n: r.Long()}
	default:
		return step{raw: r.Raw(len(s.raw))}
	}
}

func same(a, b step) bool {
	return a.size == b.size && a.n == b.n && bytes.Equal(a.raw, b.raw)
}

// length is the number of bytes of a field.
func length(s step) int {
	return len(bytesOf(s))
}

// sequence returns fields of all kinds in an order that follows no plain pattern, the same for the same seed.
func sequence(seed uint64, count int) []step {
	var out []step
	next := func() uint64 {
		seed = seed*6364136223846793005 + 1442695040888963407
		return seed ^ seed>>29
	}
	for range count {
		switch n := next(); n >> 40 % 5 {
		case 0:
			out = append(out, step{size: 1, n: next() % (1 << 8)})
		case 1:
			out = append(out, step{size: 2, n: next() % (1 << 16)})
		case 2:
			out = append(out, step{size: 4, n: next() % (1 << 32)})
		case 3:
			out = append(out, step{size: 8, n: next()})
		default:
			raw := make([]byte, next()>>33%7)
			for i := range raw {
				raw[i] = byte(next() >> 20)
			}
			out = append(out, step{raw: raw})
		}
	}
	return out
}

// edges are the least and the greatest integers of each size, those with each byte alone, and byte strings of few and of many bytes.
func edges() []step {
	out := []step{{raw: nil}, {raw: []byte{}}, {raw: []byte{0}}, {raw: bytes.Repeat([]byte{255, 0, 7}, 30000)}}
	for _, size := range []int{1, 2, 4, 8} {
		most := uint64(math.MaxUint64) >> (64 - 8*size)
		out = append(out, step{size: size}, step{size: size, n: 1}, step{size: size, n: most}, step{size: size, n: most - 1}, step{size: size, n: most/2 + 1})
		for i := range size {
			out = append(out, step{size: size, n: 0xA5 << (8 * i)})
		}
	}
	return out
}

// Examples.
func TestExamples(t *testing.T) {
	var w Writer
	w.Byte(1)
	w.Short(2)
	w.Word(0xFF)
	w.Raw([]byte{7})
	if got, want := w.Out(), []byte{1, 0, 2, 0, 0, 0, 0xFF, 7}; !bytes.Equal(got, want) {
		t.Errorf("Out: %X, want %X", got, want)
	}
	r := Open([]byte{1, 2, 3})
	if a, b, c, bad := r.Short(), r.Short(), r.Byte(), r.Bad(); a != 0x0102 || b != 0 || c != 0 || !bad {
		t.Errorf("read: %X, %X, %X, %v", a, b, c, bad)
	}
}

// P2.1: a zero Writer is empty.
func TestZeroWriterIsEmpty(t *testing.T) {
	var w Writer
	if got := w.Out(); len(got) != 0 {
		t.Errorf("%X", got)
	}
	w.Raw(nil)
	w.Raw([]byte{})
	if got := w.Out(); len(got) != 0 {
		t.Errorf("after nothing was appended: %X", got)
	}
}

// P2.1: each field is appended to what there is, whatever was requested in between.
func TestFieldsAreAppended(t *testing.T) {
	for _, s := range [][]step{edges(), sequence(1, 500), sequence(2, 500)} {
		var w Writer
		var want []byte
		for i, f := range s {
			put(&w, f)
			want = append(want, bytesOf(f)...)
			if got := w.Out(); !bytes.Equal(got, want) {
				t.Fatalf("after field %d, %+v: %X, want %X", i, f, got, want)
			}
		}
	}
}

// P2.1: a nil Writer.
func TestNilWriter(t *testing.T) {
	var w *Writer
	for _, f := range edges() {
		put(w, f)
		if got := w.Out(); len(got) != 0 {
			t.Fatalf("after %+v: %X", f, got)
		}
	}
}

// P2.2: each field is the one after the position, which moves behind it.
func TestFieldsAreRead(t *testing.T) {
	for _, s := range [][]step{edges(), sequence(3, 500), sequence(4, 500)} {
		var all []byte
		for _, f := range s {
			all = append(all, bytesOf(f)...)
		}
		r := Open(all)
		left := len(all)
		for i, f := range s {
			if r.Left() != left || r.Bad() {
				t.Fatalf("before field %d: %d left, want %d; bad %v", i, r.Left(), left, r.Bad())
			}
			if got := get(r, f); !same(got, f) {
				t.Fatalf("field %d: %+v, want %+v", i, got, f)
			}
			left -= length(f)
		}
		if r.Left() != 0 || r.Bad() {
			t.Errorf("at the end: %d left, bad %v", r.Left(), r.Bad())
		}
	}
}

// hasFailed tells what of a reader that has failed is not as P2.2 says, if anything is not.
func hasFailed(r *Reader) string {
	for range 2 {
		switch {
		case !r.Bad():
			return "Bad"
		case r.Left() != 0:
			return "Left"
		case r.Byte() != 0:
			return "Byte"
		case r.Short() != 0:
			return "Short"
		case r.Word() != 0:
			return "Word"
		case r.Long() != 0:
			return "Long"
		case len(r.Raw(1)) != 0:
			return "Raw(1)"
		case len(r.Raw(0)) != 0:
			return "Raw(0)"
		case len(r.Raw(-1)) != 0:
			return "Raw(-1)"
		}
	}
	return ""
}

// P2.2: a request for more than there is makes the reader fail, for good: also where fewer bytes would have been there.
func TestRequestBeyondTheEnd(t *testing.T) {
	for _, f := range []step{{size: 1}, {size: 2}, {size: 4}, {size: 8}, {raw: make([]byte, 1)}, {raw: make([]byte, 5)}, {raw: make([]byte, 300)}} {
		for before := range 3 {
			for missing := 1; missing <= length(f); missing++ {
				r := Open(bytes.Repeat([]byte{0xEE}, before+length(f)-missing))
				if got := r.Raw(before); len(got) != before || r.Bad() {
					t.Fatalf("the %d bytes before: %X, bad %v", before, got, r.Bad())
				}
				if got := get(r, f); got.n != 0 || len(got.raw) != 0 {
					t.Errorf("%+v, with %d bytes missing: %+v", f, missing, got)
				}
				if what := hasFailed(r); what != "" {
					t.Errorf("%+v, with %d bytes missing: then %s", f, missing, what)
				}
			}
		}
	}
}

// P2.2: numbers of bytes that are negative, or beyond all lists.
func TestRawOfWrongNumbers(t *testing.T) {
	for _, n := range []int{-1, -2, -3, math.MinInt, math.MinInt + 1, 4, math.MaxInt, math.MaxInt - 1, 1 << 32} {
		r := Open([]byte{1, 2, 3})
		if got := r.Raw(n); len(got) != 0 {
			t.Errorf("Raw(%d): %X", n, got)
		}
		if what := hasFailed(r); what != "" {
			t.Errorf("after Raw(%d): %s", n, what)
		}
		r = Open([]byte{1, 2, 3})
		r.Byte()
		if got := r.Raw(n); len(got) != 0 || !r.Bad() {
			t.Errorf("behind a byte, Raw(%d): %X, bad %v", n, got, r.Bad())
		}
	}
}

// P2.2: no bytes at all; requests for none of them do not fail.
func TestReaderOfNothing(t *testing.T) {
	for _, b := range [][]byte{nil, {}} {
		r := Open(b)
		if r.Left() != 0 || r.Bad() || len(r.Raw(0)) != 0 || r.Bad() {
			t.Errorf("%d left, bad %v", r.Left(), r.Bad())
		}
		if r.Byte() != 0 {
			t.Error("a byte of nothing")
		}
		if what := hasFailed(r); what != "" {
			t.Errorf("then %s", what)
		}
	}
}

// P2.2: a nil Reader has failed.
func TestNilReader(t *testing.T) {
	if what := hasFailed(nil); what != "" {
		t.Error(what)
	}
}

// P2.3: what is written is copied, and only read.
func TestWriterOnlyReads(t *testing.T) {
	memory := []byte{1, 2, 3, 4, 5, 6, 7, 8}
	before := slices.Clone(memory)
	var w Writer
	w.Raw(memory[2:5])
	w.Byte(0xEE)
	w.Raw(memory[2:5])
	w.Long(math.MaxUint64)
	if !bytes.Equal(memory, before) {
		t.Errorf("the argument's memory: %X", memory)
	}
	clear(memory)
	if got, want := w.Out()[:7], []byte{3, 4, 5, 0xEE, 3, 4, 5}; !bytes.Equal(got, want) {
		t.Errorf("once the argument was changed: %X, want %X", got, want)
	}
}

// P2.3: what Out returned shares nothing with the writer, nor with what it returned before.
func TestOutIsNewMemory(t *testing.T) {
	var w Writer
	var want []byte
	for n := range 40 {
		w.Byte(uint8(n))
		want = append(want, uint8(n))
		first, second := w.Out(), w.Out()
		for i := range first[:cap(first)] {
			first[:cap(first)][i] = 0xDD
		}
		if !bytes.Equal(second, want) {
			t.Fatalf("after %d bytes: a result was changed by another: %X", n+1, second)
		}
		if got := w.Out(); !bytes.Equal(got, want) {
			t.Fatalf("after %d bytes: the writer was changed by a result: %X", n+1, got)
		}
	}
}

// P2.3: a reader copies its bytes, and does not change them; what it returns is nobody else's.
func TestReaderOnlyReads(t *testing.T) {
	memory := []byte{1, 2, 3, 4, 5, 6, 7, 8}
	before := slices.Clone(memory)
	r := Open(memory[1:6])
	first := r.Raw(2)
	_ = append(first, 0xDD, 0xDD)
	clear(first[:cap(first)])
	if !bytes.Equal(memory, before) {
		t.Errorf("the argument's memory: %X", memory)
	}
	clear(memory)
	if got := r.Raw(2); !bytes.Equal(got, []byte{4, 5}) {
		t.Errorf("once all was changed: %X", got)
	}
	if got := r.Byte(); got != 6 || r.Left() != 0 {
		t.Errorf("once all was changed: %X, %d left", got, r.Left())
	}
	other := []byte{9, 8, 7}
	r = Open(other)
	clear(r.Raw(3))
	if !bytes.Equal(other, []byte{9, 8, 7}) {
		t.Errorf("the argument was changed by a result: %X", other)
	}
}

// P2.3: readers and writers do not depend on one another.
func TestObjectsAreIndependent(t *testing.T) {
	b := []byte{1, 2, 3, 4}
	first, second := Open(b), Open(b)
	first.Long()
	if !first.Bad() || second.Bad() || second.Word() != 0x01020304 {
		t.Error("one reader moved another")
	}
	var v, w Writer
	v.Short(0x0102)
	w.Short(0x0304)
	if !bytes.Equal(v.Out(), []byte{1, 2}) || !bytes.Equal(w.Out(), []byte{3, 4}) {
		t.Error("one writer changed another")
	}
}

// P2.4: what is written is read; then nothing is left.
func TestWrittenIsRead(t *testing.T) {
	for seed := range uint64(50) {
		s := sequence(seed, int(seed))
		var w Writer
		for _, f := range s {
			put(&w, f)
		}
		r := Open(w.Out())
		for i, f := range s {
			if got := get(r, f); !same(got, f) || r.Bad() {
				t.Fatalf("seed %d, field %d: %+v, want %+v", seed, i, got, f)
			}
		}
		if r.Left() != 0 || r.Bad() {
			t.Errorf("seed %d: %d left, bad %v", seed, r.Left(), r.Bad())
		}
	}
}

// P2.4: an integer is two of half its size, the more significant one first.
func TestIntegersAreMadeOfHalves(t *testing.T) {
	for _, n := range []uint64{0, 1, 0x0102030405060708, 0x8877665544332211, math.MaxUint64, 1 << 63} {
		var whole, halves, quarters, bytewise Writer
		whole.Long(n)
		for i := range 2 {
			halves.Word(uint32(n >> (32 - 32*i)))
		}
		for i := range 4 {
			quarters.Short(uint16(n >> (48 - 16*i)))
		}
		for i := range 8 {
			bytewise.Byte(uint8(n >> (56 - 8*i)))
		}
		for i, w := range []*Writer{&halves, &quarters, &bytewise} {
			if !bytes.Equal(w.Out(), whole.Out()) {
				t.Errorf("%X in parts (%d): %X", n, i, w.Out())
			}
		}
		a, b, c, d := Open(whole.Out()), Open(whole.Out()), Open(whole.Out()), Open(whole.Out())
		long := a.Long()
		words := uint64(b.Word())<<32 | uint64(b.Word())
		shorts := uint64(c.Short())<<48 | uint64(c.Short())<<32 | uint64(c.Short())<<16 | uint64(c.Short())
		var octets uint64
		for range 8 {
			octets = octets<<8 | uint64(d.Byte())
		}
		if long != n || words != n || shorts != n || octets != n {
			t.Errorf("%X is read as %X, %X, %X, %X", n, long, words, shorts, octets)
		}
	}
}

// P2.4: of truncated bytes, fields are read up to the end, and none after that.
func TestTruncatedBytes(t *testing.T) {
	s := sequence(8, 40)
	var w Writer
	for _, f := range s {
		put(&w, f)
	}
	all := w.Out()
	for n := range len(all) {
		r := Open(all[:n])
		at, failed := 0, false
		for i, f := range s {
			at += length(f)
			got := get(r, f)
			failed = failed || at > n
			if failed && (got.n != 0 || len(got.raw) != 0) || !failed && !same(got, f) || r.Bad() != failed {
				t.Fatalf("%d of %d bytes, field %d: %+v, bad %v", n, len(all), i, got, r.Bad())
			}
		}
	}
}
