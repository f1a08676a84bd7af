package gf_test

import (
	"math"
	"math/bits"
	"math/rand"
	"strings"
	"testing"

	"lockbox/api"
	"lockbox/gf"
)

// product is the product as the document's words say: that of the polynomials over bits, and then what is left of it behind a long division by 11b.
func product(a, b int) int {
	p := 0
	for i := range 8 {
		if b>>i&1 == 1 {
			p ^= a << i
		}
	}
	for i := 15; i >= 8; i-- {
		if p>>i&1 == 1 {
			p ^= 0x11b << (i - 8)
		}
	}
	return p
}

// 7.1 to 7.3: the document's examples, and products that are well known.
func TestExamples(t *testing.T) {
	for _, c := range []struct{ a, b, want byte }{
		{0x57, 0x83, 0xc1}, {0x57, 0x13, 0xfe}, {0x57, 2, 0xae}, {0x57, 4, 0x47}, {0x57, 8, 0x8e}, {0x57, 16, 7}, {0x53, 0xca, 1}, {2, 0x80, 0x1b}, {0xff, 0xff, 0x13},
	} {
		if got := gf.Mul(c.a, c.b); got != c.want {
			t.Errorf("Mul(%02x, %02x): %02x, not %02x", c.a, c.b, got, c.want)
		}
	}
	if got, e := gf.Inv(0x53); got != 0xca || e != api.OK {
		t.Errorf("Inv(53): %02x, %v", got, e)
	}
	if gf.Exp(1) != 3 {
		t.Errorf("Exp(1): %d", gf.Exp(1))
	}
	if n, e := gf.Log(3); n != 1 || e != api.OK {
		t.Errorf("Log(3): %d, %v", n, e)
	}
}

// 7.1, P6: sum and product of all bytes.
func TestAddAndMulOfAllBytes(t *testing.T) {
	for a := range 256 {
		for b := range 256 {
			if got := gf.Add(byte(a), byte(b)); int(got) != a^b {
				t.Fatalf("Add(%02x, %02x): %02x", a, b, got)
			}
			if got, want := gf.Mul(byte(a), byte(b)), product(a, b); int(got) != want {
				t.Fatalf("Mul(%02x, %02x): %02x, not %02x", a, b, got, want)
			}
		}
	}
}

// 7.1: the inverse of each byte but 0 is the only one with the product 1; 0 has none.
func TestInvOfAllBytes(t *testing.T) {
	if got, e := gf.Inv(0); got != 0 || e != api.ErrArg {
		t.Errorf("Inv(0): %02x, %v", got, e)
	}
	for a := 1; a < 256; a++ {
		got, e := gf.Inv(byte(a))
		if e != api.OK {
			t.Fatalf("Inv(%02x): %v", a, e)
		}
		for b := range 256 {
			if (product(a, b) == 1) != (b == int(got)) {
				t.Fatalf("Inv(%02x): %02x; the product with %02x is %02x", a, got, b, product(a, b))
			}
		}
	}
}

// P6: what the S-box of AES (FIPS 197) makes of the first bytes, which it makes of their inverses.
func TestInvByKnownBox(t *testing.T) {
	box := "\x63\x7c\x77\x7b\xf2\x6b\x6f\xc5\x30\x01\x67\x2b\xfe\xd7\xab\x76\xca\x82\xc9\x7d\xfa\x59\x47\xf0\xad\xd4\xa2\xaf\x9c\xa4\x72\xc0"
	for a := range len(box) {
		b, _ := gf.Inv(byte(a))
		got := b ^ 0x63
		for i := 1; i <= 4; i++ {
			got ^= bits.RotateLeft8(b, i)
		}
		if got != box[a] {
			t.Errorf("S-box of %02x: %02x, not %02x", a, got, box[a])
		}
	}
}

// 7.1: a quotient of all bytes gives the first one back by the second; by 0 there is none, of 0 neither.
func TestDivOfAllBytes(t *testing.T) {
	for a := range 256 {
		if got, e := gf.Div(byte(a), 0); got != 0 || e != api.ErrArg {
			t.Errorf("Div(%02x, 0): %02x, %v", a, got, e)
		}
		for b := 1; b < 256; b++ {
			if got, e := gf.Div(byte(a), byte(b)); e != api.OK || product(int(got), b) != a {
				t.Fatalf("Div(%02x, %02x): %02x, %v", a, b, got, e)
			}
		}
	}
}

// 7.1: powers of all bytes but 0, each from the one ahead of it, and from its inverse's.
func TestPow(t *testing.T) {
	for a := 1; a < 256; a++ {
		inverse, _ := gf.Inv(byte(a))
		up, down := 1, 1
		for n := range 600 {
			if got, e := gf.Pow(byte(a), n); int(got) != up || e != api.OK {
				t.Fatalf("Pow(%02x, %d): %02x, %v, not %02x", a, n, got, e, up)
			}
			if got, e := gf.Pow(byte(a), -n); int(got) != down || e != api.OK {
				t.Fatalf("Pow(%02x, %d): %02x, %v, not %02x", a, -n, got, e, down)
			}
			up, down = product(up, a), product(down, int(inverse))
		}
	}
}

// 7.1: to the greatest and the least numbers: 255 times any number more or less is the same power.
func TestPowOfFarNumbers(t *testing.T) {
	for a := 1; a < 256; a++ {
		for i := range 300 {
			n := math.MaxInt - i
			want, _ := gf.Pow(byte(a), n%255)
			if got, e := gf.Pow(byte(a), n); got != want || e != api.OK {
				t.Fatalf("Pow(%02x, %d): %02x, %v, not %02x", a, n, got, e, want)
			}
			n = math.MinInt + i
			want, _ = gf.Pow(byte(a), n%255+255)
			if got, e := gf.Pow(byte(a), n); got != want || e != api.OK {
				t.Fatalf("Pow(%02x, %d): %02x, %v, not %02x", a, n, got, e, want)
			}
		}
	}
}

// 7.1: 0 to the 0 is 1, to any greater number 0, and to no number below 0 anything.
func TestPowOfZero(t *testing.T) {
	if got, e := gf.Pow(0, 0); got != 1 || e != api.OK {
		t.Errorf("Pow(0, 0): %02x, %v", got, e)
	}
	for _, n := range []int{1, 2, 254, 255, 256, 510, 255 * 255, 1 << 40, math.MaxInt} {
		if got, e := gf.Pow(0, n); got != 0 || e != api.OK {
			t.Errorf("Pow(0, %d): %02x, %v", n, got, e)
		}
		if got, e := gf.Pow(0, -n); got != 0 || e != api.ErrArg {
			t.Errorf("Pow(0, %d): %02x, %v", -n, got, e)
		}
	}
	if got, e := gf.Pow(0, math.MinInt); got != 0 || e != api.ErrArg {
		t.Errorf("Pow(0, least): %02x, %v", got, e)
	}
}

// 7.2: the powers of the generator, from 0 on those of well known tables, go through all bytes but 0, and come round either way.
func TestExp(t *testing.T) {
	known := "\x01\x03\x05\x0f\x11\x33\x55\xff\x1a\x2e\x72\x96\xa1\xf8\x13\x35"
	var seen [256]bool
	power := 1
	for n := range 255 {
		if n < len(known) && power != int(known[n]) {
			t.Errorf("the power %d: %02x, not %02x", n, power, known[n])
		}
		for _, m := range []int{n, n + 255, n - 255, n + 510, n - 510, n + 255<<40, n - 255<<40} {
			if got := gf.Exp(m); int(got) != power {
				t.Fatalf("Exp(%d): %02x, not %02x", m, got, power)
			}
		}
		if seen[power] || power == 0 {
			t.Errorf("the power %d: %02x again", n, power)
		}
		seen[power] = true
		power = product(power, 3)
	}
	for i := range 300 {
		if n := math.MaxInt - i; gf.Exp(n) != gf.Exp(n%255) {
			t.Errorf("Exp(%d): %02x, not %02x", n, gf.Exp(n), gf.Exp(n%255))
		}
		if n := math.MinInt + i; gf.Exp(n) != gf.Exp(n%255+255) {
			t.Errorf("Exp(%d): %02x, not %02x", n, gf.Exp(n), gf.Exp(n%255+255))
		}
	}
}

// 7.2: the log of each byte but 0 is the least number whose power it is; 0 has none.
func TestLog(t *testing.T) {
	if n, e := gf.Log(0); n != 0 || e != api.ErrArg {
		t.Errorf("Log(0): %d, %v", n, e)
	}
	power := 1
	for n := range 255 {
		if got, e := gf.Log(byte(power)); got != n || e != api.OK {
			t.Errorf("Log(%02x): %d, %v, not %d", power, got, e, n)
		}
		power = product(power, 3)
	}
}

// 7.2: the tables, with the 1 behind the powers and the 0 ahead of the logs.
func TestTable(t *testing.T) {
	var want [2][256]int
	power := 1
	for n := range 255 {
		want[0][n] = power
		want[1][power] = n
		power = product(power, 3)
	}
	want[0][255] = 1
	got := gf.Table()
	if got != want {
		t.Errorf("Table: %v, not %v", got, want)
	}
	got[0][7], got[1][7] = -1, -1
	if gf.Table() != want {
		t.Error("Table answers another one, when one that it answered is changed (R3)")
	}
}

// 7.3: the sum of products, of texts of any length.
func TestDot(t *testing.T) {
	r := rand.New(rand.NewSource(1))
	for n := range 300 {
		a, b := make([]byte, n), make([]byte, n)
		r.Read(a)
		r.Read(b)
		want := 0
		for i := range n {
			want ^= product(int(a[i]), int(b[i]))
		}
		if got, e := gf.Dot(string(a), string(b)); int(got) != want || e != api.OK {
			t.Errorf("Dot(%x, %x): %02x, %v, not %02x", a, b, got, e, want)
		}
	}
	if got, e := gf.Dot(strings.Repeat("\x02", 1<<20+1), strings.Repeat("\x80", 1<<20+1)); got != 0x1b || e != api.OK {
		t.Errorf("Dot of long texts: %02x, %v", got, e)
	}
}

// 7.3: texts of which one is longer have no sum of products, whatever their bytes are.
func TestDotOfTwoLengths(t *testing.T) {
	for n := range 5 {
		for m := range 5 {
			for _, c := range []string{"\x00", "\x01", "\xff"} {
				got, e := gf.Dot(strings.Repeat(c, n), strings.Repeat("\x03", m))
				if n != m && (got != 0 || e != api.ErrArg) || n == m && e != api.OK {
					t.Errorf("Dot of %d and %d bytes: %02x, %v", n, m, got, e)
				}
			}
		}
	}
}

// 7.4: sum and product are those of a field.
func TestFieldLaws(t *testing.T) {
	var sum, prod [256][256]byte
	for a := range 256 {
		for b := range 256 {
			sum[a][b], prod[a][b] = gf.Add(byte(a), byte(b)), gf.Mul(byte(a), byte(b))
		}
	}
	for a := range 256 {
		if sum[a][0] != byte(a) || sum[a][a] != 0 || prod[a][1] != byte(a) || prod[a][0] != 0 {
			t.Errorf("0 and 1 beside %02x", a)
		}
		for b := range 256 {
			if sum[a][b] != sum[b][a] || prod[a][b] != prod[b][a] || (prod[a][b] == 0) != (a == 0 || b == 0) {
				t.Fatalf("%02x and %02x", a, b)
			}
			for c := range 256 {
				if sum[sum[a][b]][c] != sum[a][sum[b][c]] || prod[prod[a][b]][c] != prod[a][prod[b][c]] || prod[a][sum[b][c]] != sum[prod[a][b]][prod[a][c]] {
					t.Fatalf("%02x, %02x and %02x", a, b, c)
				}
			}
		}
	}
}
