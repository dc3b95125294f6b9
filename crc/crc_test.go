package crc

import (
	"bytes"
	"hash/crc32"
	"slices"
	"testing"
)

// divisor is x^32 plus the powers that are set in 1EDC6F41.
const divisor = uint64(1)<<32 | 0x1EDC6F41

// longDivision does what P1.1 says, coefficient by coefficient, without the short cuts of Step: bit i of polynomial is the coefficient of x^i.
func longDivision(r uint32, c byte) uint32 {
	var polynomial uint64
	for i := range 32 {
		if r>>i&1 == 1 {
			polynomial ^= 1 << (31 - i + 8)
		}
	}
	for i := range 8 {
		if c>>i&1 == 1 {
			polynomial ^= 1 << (7 - i + 32)
		}
	}
	for power := 39; power >= 32; power-- {
		if polynomial>>power&1 == 1 {
			polynomial ^= divisor << (power - 32)
		}
	}
	var rest uint32
	for i := range 32 {
		if polynomial>>(31-i)&1 == 1 {
			rest |= 1 << i
		}
	}
	return rest
}

// mixed returns n bytes that follow no plain pattern, the same ones for the same seed.
func mixed(seed uint32, n int) []byte {
	b := make([]byte, n)
	for i := range b {
		seed = seed*1664525 + 1013904223
		b[i] = byte(seed >> 24)
	}
	return b
}

// samples are byte strings of ordinary and of edge lengths.
func samples() [][]byte {
	out := [][]byte{nil, {}, {0}, {255}, []byte("123456789"), make([]byte, 32), bytes.Repeat([]byte{255}, 32)}
	for n := range 40 {
		out = append(out, mixed(uint32(n), n))
	}
	return append(out, mixed(77, 4096), mixed(78, 65536))
}

// withSum returns b followed by its Sum, the lowest byte first.
func withSum(b []byte) []byte {
	n := Sum(b)
	return append(slices.Clone(b), byte(n), byte(n>>8), byte(n>>16), byte(n>>24))
}

// P1.1, examples.
func TestStepExamples(t *testing.T) {
	for _, x := range []struct {
		r    uint32
		c    byte
		want uint32
	}{{0, 1, 0xF26B8303}, {1, 1, 0}, {0xFFFFFFFF, 0, 0xAD82ACAE}} {
		if got := Step(x.r, x.c); got != x.want {
			t.Errorf("Step(%X, %X) = %X, want %X", x.r, x.c, got, x.want)
		}
	}
}

// P1.1: the remainder of the definition, for each byte and registers of all kinds.
func TestStepIsTheRemainder(t *testing.T) {
	registers := []uint32{0, 1, 0xFF, 0x100, 0x7FFFFFFF, 0x80000000, 0xFFFFFF00, 0xFFFFFFFE, 0xFFFFFFFF}
	for i := range 32 {
		registers = append(registers, 1<<i, ^uint32(1<<i))
	}
	for i := range uint32(200) {
		registers = append(registers, i*0x9E3779B9)
	}
	for _, r := range registers {
		for c := range 256 {
			if got, want := Step(r, byte(c)), longDivision(r, byte(c)); got != want {
				t.Fatalf("Step(%X, %X) = %X, want %X", r, c, got, want)
			}
		}
	}
}

// P1.2, examples.
func TestSumExamples(t *testing.T) {
	for i, x := range []struct {
		b    []byte
		want uint32
	}{
		{[]byte("123456789"), 0xE3069283},
		{nil, 0},
		{[]byte{}, 0},
		{make([]byte, 32), 0x8A9136AA},
		{bytes.Repeat([]byte{0xFF}, 32), 0x62A8AB43},
	} {
		if got := Sum(x.b); got != x.want {
			t.Errorf("%d: %X, want %X", i, got, x.want)
		}
	}
}

// P1.2: byte by byte from FFFFFFFF on, with all bits inverted at the end.
func TestSumGoesByteByByte(t *testing.T) {
	table := crc32.MakeTable(crc32.Castagnoli)
	for _, b := range samples() {
		r := uint32(0xFFFFFFFF)
		for _, c := range b {
			r = longDivision(r, c)
		}
		if got, want := Sum(b), r^0xFFFFFFFF; got != want {
			t.Errorf("Sum of %d bytes = %X, want %X", len(b), got, want)
		}
		if got, want := Sum(b), crc32.Checksum(b, table); got != want {
			t.Errorf("Sum of %d bytes = %X, the library's is %X", len(b), got, want)
		}
	}
}

// P1.3: neither the bytes, nor what is behind them in their memory; and the result depends on the bytes alone.
func TestSumOnlyReads(t *testing.T) {
	memory := mixed(5, 64)
	before := slices.Clone(memory)
	first := Sum(memory[8:24])
	if !bytes.Equal(memory, before) {
		t.Error("the argument's memory was changed")
	}
	if second := Sum(slices.Clip(slices.Clone(before[8:24]))); second != first || Sum(memory[8:24]) != first {
		t.Error("equal bytes have different Sums")
	}
}

// P1.4: bytes followed by their Sum.
func TestSumOfWhatEndsWithItsSum(t *testing.T) {
	for _, b := range samples() {
		if got := Sum(withSum(b)); got != 0x48674BC7 {
			t.Errorf("%d bytes with their Sum: %X", len(b), got)
		}
	}
}

// P1.4: with the same end, Sums are equal exactly if those of the parts before it are.
func TestSumWithTheSameEnd(t *testing.T) {
	// Different strings of the same Sum: those that end with their own.
	equal := [][]byte{withSum(nil), withSum([]byte("a")), withSum(mixed(1, 9)), withSum(mixed(2, 100))}
	for _, end := range samples() {
		want := Sum(append(slices.Clone(equal[0]), end...))
		for _, b := range equal {
			if got := Sum(append(slices.Clone(b), end...)); got != want {
				t.Errorf("equal before %d bytes, then %X and %X", len(end), got, want)
			}
			other := append(slices.Clone(b), 0)
			if Sum(other) == Sum(b) {
				t.Fatalf("the strings are meant to differ in their Sums")
			}
			if got := Sum(append(other, end...)); got == want {
				t.Errorf("different before %d bytes, then equal", len(end))
			}
		}
	}
}

// P1.4: the effect of an inverted bit.
func TestSumOfAnInvertedBit(t *testing.T) {
	for bit := range 8 {
		for after := range 20 {
			var effect uint32
			for i, before := range []int{0, 1, 7, 33} {
				b := mixed(uint32(100*bit+i), before+1+after)
				n := Sum(b)
				b[before] ^= 1 << bit
				n ^= Sum(b)
				if i == 0 {
					effect = n
				}
				if n != effect || n == 0 {
					t.Errorf("bit %d, %d bytes behind it, %d before it: %X, want %X", bit, after, before, n, effect)
				}
			}
		}
	}
}

// P1.4: changes within four consecutive bytes are recognized.
func TestSumOfCloseChanges(t *testing.T) {
	b := mixed(9, 50)
	n := Sum(b)
	for at := 0; at+4 <= len(b); at++ {
		for i := range uint32(500) {
			change := i*0x01000193 + 1
			if i < 32 {
				change = 1 << i
			}
			if change == 0 {
				continue
			}
			c := slices.Clone(b)
			for j := range 4 {
				c[at+j] ^= byte(change >> (8 * j))
			}
			if Sum(c) == n {
				t.Fatalf("changed by %X at %d: the same Sum", change, at)
			}
		}
	}
}
