package crc_test

import (
	"hash/crc32"
	"math"
	"math/rand"
	"strings"
	"testing"

	"lockbox/crc"
)

func text(r *rand.Rand, n int) string {
	b := make([]byte, n)
	r.Read(b)
	return string(b)
}

func zeros(n int) string { return strings.Repeat("\x00", n) }

// 3.1, P6: the sums of the document's examples, and of others that are well known.
func TestSumOfKnownTexts(t *testing.T) {
	for _, c := range []struct {
		s   string
		sum uint32
	}{
		{"", 0}, {"123456789", 0xcbf43926}, {"a", 0xe8b7be43}, {"abc", 0x352441c2}, {"\x00", 0xd202ef8d}, {"\xff", 0xff000000},
		{"\x00\x00\x00\x00", 0x2144df1c}, {"\xff\xff\xff\xff", 0xffffffff},
		{"The quick brown fox jumps over the lazy dog", 0x414fa339},
	} {
		if got := crc.Sum(c.s); got != c.sum {
			t.Errorf("Sum(%q): %08x, not %08x", c.s, got, c.sum)
		}
	}
}

// 3.1, P6: every byte, every short length, and long texts.
func TestSumOfAllLengths(t *testing.T) {
	r := rand.New(rand.NewSource(1))
	check := func(s string) {
		t.Helper()
		if got, want := crc.Sum(s), crc32.ChecksumIEEE([]byte(s)); got != want {
			t.Fatalf("Sum of %d bytes, %.40x: %08x, not %08x", len(s), s, got, want)
		}
	}
	for c := range 256 {
		check(string([]byte{byte(c)}))
		check(string([]byte{0x5a, byte(c)}))
	}
	for n := range 300 {
		check(text(r, n))
		check(zeros(n))
		check(strings.Repeat("\xff", n))
	}
	check(text(r, 1<<16+1))
	check(text(r, 1<<22+3))
}

// 3.1: More goes on from the sum of some bytes, wherever these end.
func TestMoreInTwoParts(t *testing.T) {
	s := text(rand.New(rand.NewSource(2)), 100)
	want := crc32.ChecksumIEEE([]byte(s))
	for i := range len(s) + 1 {
		if got := crc.More(crc.Sum(s[:i]), s[i:]); got != want {
			t.Fatalf("cut at %d: %08x, not %08x", i, got, want)
		}
	}
}

// 3.1: More of any sum, the register taken bit by bit as the document says.
func TestMoreOfAnySum(t *testing.T) {
	r := rand.New(rand.NewSource(3))
	sums := []uint32{0, 1, math.MaxUint32, 1 << 31, 0xedb88320, 0x12345678}
	for range 200 {
		sums = append(sums, r.Uint32())
	}
	for _, sum := range sums {
		if got := crc.More(sum, ""); got != sum {
			t.Errorf("More(%08x) of nothing: %08x", sum, got)
		}
		s := text(r, 1+r.Intn(20))
		if got, want := crc.More(sum, s), bitByBit(sum, s); got != want {
			t.Errorf("More(%08x, %x): %08x, not %08x", sum, s, got, want)
		}
	}
}

// bitByBit takes bytes in as the document's words say.
func bitByBit(sum uint32, s string) uint32 {
	reg := ^sum
	for _, c := range []byte(s) {
		for i := range 8 {
			turn := reg&1 != uint32(c>>i)&1
			reg >>= 1
			if turn {
				reg ^= 0xedb88320
			}
		}
	}
	return ^reg
}

// 3.1: Step of every kind of register and bit; of a bit the lowest one counts, whatever stands above it.
func TestStep(t *testing.T) {
	for _, c := range []struct {
		reg  uint32
		bit  int
		want uint32
	}{
		{0, 0, 0}, {0, 1, 0xedb88320}, {1, 0, 0xedb88320}, {1, 1, 0},
		{2, 0, 1}, {2, 1, 0xedb88321}, {3, 0, 0xedb88321}, {3, 1, 1},
		{math.MaxUint32, 1, 0x7fffffff}, {math.MaxUint32, 0, 0x92477cdf}, {1 << 31, 0, 1 << 30}, {1 << 31, 1, 0xadb88320},
	} {
		for _, bit := range []int{c.bit, c.bit + 2, c.bit + 256, c.bit - 2, c.bit + math.MinInt, c.bit + 1<<32, math.MaxInt - 1 + c.bit} {
			if got := crc.Step(c.reg, bit); got != c.want {
				t.Errorf("Step(%08x, %d): %08x, not %08x", c.reg, bit, got, c.want)
			}
		}
	}
}

// 3.1: the sum is what steps lead to.
func TestStepsAreTheSum(t *testing.T) {
	r := rand.New(rand.NewSource(4))
	for n := range 40 {
		s := text(r, n)
		reg := uint32(math.MaxUint32)
		for _, c := range []byte(s) {
			for i := range 8 {
				reg = crc.Step(reg, int(c>>i))
			}
		}
		if ^reg != crc.Sum(s) {
			t.Errorf("steps over %x: %08x, and Sum is %08x", s, ^reg, crc.Sum(s))
		}
	}
}

// 3.2: Zeros is More of bytes 0, of few and of many; of a number below 0 it is the sum.
func TestZeros(t *testing.T) {
	r := rand.New(rand.NewSource(5))
	many := zeros(1<<20 + 1)
	for _, sum := range []uint32{0, 1, math.MaxUint32, 1 << 31, crc.Sum("x"), r.Uint32(), r.Uint32()} {
		for _, n := range []int{-1, -2, -8, math.MinInt, math.MinInt + 1, math.MinInt32} {
			if got := crc.Zeros(sum, n); got != sum {
				t.Errorf("Zeros(%08x, %d): %08x", sum, n, got)
			}
		}
		for n := range 130 {
			if got, want := crc.Zeros(sum, n), bitByBit(sum, zeros(n)); got != want {
				t.Errorf("Zeros(%08x, %d): %08x, not %08x", sum, n, got, want)
			}
		}
		for _, n := range []int{255, 256, 257, 4095, 65535, 65536, 1<<20 - 1, 1 << 20, 1<<20 + 1} {
			if got, want := crc.Zeros(sum, n), crc.More(sum, many[:n]); got != want {
				t.Errorf("Zeros(%08x, %d): %08x, not %08x", sum, n, got, want)
			}
		}
	}
}

// 3.2, R1: Zeros ends at numbers up to the greatest, and is right there. Registers come back behind 2^32 - 1 bits 0, and so behind as many bytes: what is left of a number divided by it counts.
func TestZerosOfGreatNumbers(t *testing.T) {
	const round = math.MaxUint32
	for _, sum := range []uint32{0, 1, math.MaxUint32, 0xcbf43926} {
		for _, n := range []int{round, round + 1, 2*round + 77, math.MaxInt, math.MaxInt - 1, 1 << 62, 1<<62 - 1, 1 << 40} {
			if got, want := crc.Zeros(sum, n), crc.Zeros(sum, n%round); got != want {
				t.Errorf("Zeros(%08x, %d): %08x, not %08x", sum, n, got, want)
			}
		}
		if crc.Zeros(sum, round) != sum {
			t.Errorf("Zeros(%08x, %d): another sum", sum, round)
		}
	}
}

// 3.2: Zeros in two parts.
func TestZerosOfZeros(t *testing.T) {
	r := rand.New(rand.NewSource(6))
	for range 200 {
		sum, a, b := r.Uint32(), r.Int()>>1, r.Int()>>1
		if got, want := crc.Zeros(crc.Zeros(sum, a), b), crc.Zeros(sum, a+b); got != want {
			t.Fatalf("Zeros(%08x) of %d and %d: %08x, not %08x", sum, a, b, got, want)
		}
	}
}

// 3.2: Combine puts the sums of two texts together, of any lengths.
func TestCombine(t *testing.T) {
	if got := crc.Combine(crc.Sum("1234"), crc.Sum("56789"), 5); got != 0xcbf43926 {
		t.Errorf("Combine of 1234 and 56789: %08x", got)
	}
	r := rand.New(rand.NewSource(7))
	for _, n := range []int{0, 1, 2, 3, 4, 7, 8, 64, 255, 256, 1000, 70000} {
		for _, m := range []int{0, 1, 2, 5, 100} {
			a, b := text(r, m), text(r, n)
			if got, want := crc.Combine(crc.Sum(a), crc.Sum(b), n), crc.Sum(a+b); got != want {
				t.Errorf("Combine of %d and %d bytes: %08x, not %08x", m, n, got, want)
			}
		}
	}
}

// 3.2, R1: Combine of any numbers: it is what the document reckons it from; below 0 both sums stand as they are.
func TestCombineOfAnyNumbers(t *testing.T) {
	r := rand.New(rand.NewSource(8))
	for _, n := range []int{0, 1, 9, -1, -7, math.MinInt, math.MaxInt, 1 << 40} {
		for range 50 {
			a, b := r.Uint32(), r.Uint32()
			if got, want := crc.Combine(a, b, n), crc.Zeros(a, n)^b^crc.Zeros(0, n); got != want {
				t.Errorf("Combine(%08x, %08x, %d): %08x, not %08x", a, b, n, got, want)
			}
			if n <= 0 && crc.Combine(a, b, n) != a^b {
				t.Errorf("Combine(%08x, %08x, %d): %08x", a, b, n, crc.Combine(a, b, n))
			}
		}
	}
}

// 3.3: the sums of three texts of one length, put together bit by bit.
func TestThreeTexts(t *testing.T) {
	r := rand.New(rand.NewSource(9))
	for n := range 200 {
		a, b, c := text(r, n), text(r, n), text(r, n)
		all := make([]byte, n)
		for i := range all {
			all[i] = a[i] ^ b[i] ^ c[i]
		}
		if got, want := crc.Sum(a)^crc.Sum(b)^crc.Sum(c), crc.Sum(string(all)); got != want {
			t.Fatalf("three texts of %d bytes: %08x, not %08x", n, got, want)
		}
	}
}

// 3.3: bits that are turned within 32 that stand side by side are told, wherever they stand: all patterns of a few bits, and many of up to 32.
func TestTurnedBitsAreTold(t *testing.T) {
	r := rand.New(rand.NewSource(10))
	s := text(r, 12)
	patterns := []uint32{1 << 31, 1<<31 | 1, math.MaxUint32, 0xedb88320, 0xdb710641, 0x04c11db7, 0x82608edb}
	for p := range uint32(1 << 8) {
		patterns = append(patterns, p+1)
	}
	for range 3000 {
		patterns = append(patterns, r.Uint32()|1)
	}
	for at := range len(s) * 8 {
		for _, p := range patterns {
			if turned := turn(s, at, p); turned != s && crc.Sum(turned) == crc.Sum(s) {
				t.Fatalf("the pattern %08x, turned at the bit %d of %x, has the same sum", p, at, s)
			}
		}
	}
}

// turn turns the bits of a pattern from one bit of s on, as far as s goes.
func turn(s string, at int, pattern uint32) string {
	b := []byte(s)
	for i := range 32 {
		if j := at + i; j < 8*len(b) && pattern>>i&1 == 1 {
			b[j/8] ^= 1 << (j % 8)
		}
	}
	return string(b)
}
