package poly_test

import (
	"math/rand"
	"strings"
	"testing"
	"unsafe"

	"lockbox/api"
	"lockbox/gf"
	"lockbox/poly"
)

func text(r *rand.Rand, n int) string {
	b := make([]byte, n)
	r.Read(b)
	return string(b)
}

func zeros(n int) string { return strings.Repeat("\x00", n) }

// rising are n bytes: first, and each next one 1 more.
func rising(first, n int) string {
	b := make([]byte, n)
	for i := range b {
		b[i] = byte(first + i)
	}
	return string(b)
}

// places are n places, all unlike, in some order.
func places(r *rand.Rand, n int) string {
	b := make([]byte, n)
	for i, p := range r.Perm(256)[:n] {
		b[i] = byte(p)
	}
	return string(b)
}

// valuesAt are a polynomial's values at places.
func valuesAt(p, places string) string {
	b := make([]byte, len(places))
	for i := range b {
		b[i] = value(p, places[i])
	}
	return string(b)
}

// some are polynomials of few bytes, with and without bytes 0 at the ends, and others.
func some() []string {
	l := []string{""}
	for i := 0; len(l[i]) < 3; i++ {
		for _, c := range []string{"\x00", "\x01", "\x53", "\xff"} {
			l = append(l, l[i]+c)
		}
	}
	r := rand.New(rand.NewSource(7))
	for n := 4; n < 20; n++ {
		l = append(l, text(r, n), text(r, n)+zeros(n), zeros(n))
	}
	return append(l, "\xc3\x28", "\x00\xe2\x82\xac\x00", zeros(300)+"\x80", text(r, 255), text(r, 256)+"\x01", text(r, 300)+"\x00")
}

// trim takes bytes 0 from the end one by one.
func trim(p string) string {
	for strings.HasSuffix(p, "\x00") {
		p = p[:len(p)-1]
	}
	return p
}

// value is the value as the document's words say: power by power.
func value(p string, x byte) byte {
	sum, power := byte(0), byte(1)
	for i := range len(p) {
		sum ^= gf.Mul(p[i], power)
		power = gf.Mul(power, x)
	}
	return sum
}

// sum is the sum, byte by byte, trimmed.
func sum(a, b string) string {
	out := make([]byte, max(len(a), len(b)))
	for i := range out {
		if i < len(a) {
			out[i] ^= a[i]
		}
		if i < len(b) {
			out[i] ^= b[i]
		}
	}
	return trim(string(out))
}

// product is the product, byte of one by byte of the other, trimmed.
func product(a, b string) string {
	out := make([]byte, len(a)+len(b))
	for i := range len(a) {
		for j := range len(b) {
			out[i+j] ^= gf.Mul(a[i], b[j])
		}
	}
	return trim(string(out))
}

// 8.1, 8.2: the document's examples, and one that is reckoned by hand.
func TestExamples(t *testing.T) {
	if got := poly.Value("\x01\x01", 2); got != 3 {
		t.Errorf("Value(01 01, 02): %02x", got)
	}
	// What is 3 at 1 and 0 at 2 is 2 + x: at 1 it is 2 and 1, at 2 it is 2 and 2.
	if got, e := poly.Through("\x01\x02", "\x03\x00"); got != "\x02\x01" || e != api.OK {
		t.Errorf("Through(01 02, 03 00): %x, %v", got, e)
	}
	if got := poly.Mul("\x02\x01", "\x03\x01"); got != "\x06\x01\x01" {
		t.Errorf("Mul(02 01, 03 01): %x", got)
	}
}

// 8.1: bytes 0 at the end go, and no others.
func TestTrim(t *testing.T) {
	for _, c := range []struct{ p, want string }{
		{"", ""}, {"\x00", ""}, {"\x00\x00\x00", ""}, {"a", "a"}, {"a\x00", "a"}, {"\x00a", "\x00a"}, {"\x00a\x00b\x00\x00", "\x00a\x00b"}, {"\xff\x00", "\xff"}, {"a\x01", "a\x01"}, {"0 ", "0 "}, {"\x80\xc3", "\x80\xc3"}, {zeros(1 << 20), ""}, {zeros(1<<20) + "\x01", zeros(1<<20) + "\x01"},
	} {
		if got := poly.Trim(c.p); got != c.want {
			t.Errorf("Trim(%.40x): %.40x", c.p, got)
		}
	}
	for _, p := range some() {
		if got := poly.Trim(p); got != trim(p) {
			t.Errorf("Trim(%x): %x", p, got)
		}
	}
}

// 8.1: values of all kinds of polynomials at all bytes; trimmed or not they are the same.
func TestValue(t *testing.T) {
	for _, p := range some() {
		for x := range 256 {
			want := value(p, byte(x))
			if got := poly.Value(p, byte(x)); got != want {
				t.Fatalf("Value(%x, %02x): %02x, not %02x", p, x, got, want)
			}
			if got := poly.Value(p+"\x00\x00", byte(x)); got != want {
				t.Fatalf("Value(%x 0 0, %02x): %02x, not %02x", p, x, got, want)
			}
		}
	}
	long := text(rand.New(rand.NewSource(1)), 1<<17)
	for _, x := range []byte{0, 1, 2, 3, 255} {
		if got, want := poly.Value(long, x), value(long, x); got != want {
			t.Errorf("Value of a long one at %02x: %02x, not %02x", x, got, want)
		}
	}
}

// 8.1: sums and products of all kinds of polynomials, of one length or of two, trimmed.
func TestAddAndMul(t *testing.T) {
	for _, a := range some() {
		for _, b := range some() {
			if got, want := poly.Add(a, b), sum(a, b); got != want {
				t.Fatalf("Add(%x, %x): %x, not %x", a, b, got, want)
			}
			if got, want := poly.Mul(a, b), product(a, b); got != want {
				t.Fatalf("Mul(%x, %x): %x, not %x", a, b, got, want)
			}
		}
	}
}

// 8.1: what is alike at the end goes out of a sum.
func TestAddTrims(t *testing.T) {
	for _, c := range []struct{ a, b, want string }{
		{"", "", ""}, {"abc", "abc", ""}, {"abc", "xbc", "\x19"}, {"abc", "abd", "\x00\x00\x07"}, {"abc\x00", "abc", ""}, {"a\x00\x00", "", "a"}, {"", "\x00", ""}, {"\x00\x00b", "a\x00b\x00", "a"},
	} {
		if got := poly.Add(c.a, c.b); got != c.want {
			t.Errorf("Add(%q, %q): %x", c.a, c.b, got)
		}
	}
}

// 8.1: products with each byte, trimmed; with 0 there is nothing.
func TestScale(t *testing.T) {
	for _, p := range some() {
		for c := range 256 {
			if got, want := poly.Scale(p, byte(c)), product(p, string([]byte{byte(c)})); got != want {
				t.Fatalf("Scale(%x, %02x): %x, not %x", p, c, got, want)
			}
		}
	}
}

// 8.1: products of each byte with each.
func TestMulOfAllBytes(t *testing.T) {
	for a := range 256 {
		for b := range 256 {
			want := trim(string([]byte{gf.Mul(byte(a), byte(b))}))
			if got := poly.Mul(string([]byte{byte(a)}), string([]byte{byte(b)})); got != want {
				t.Fatalf("Mul(%02x, %02x): %x, not %x", a, b, got, want)
			}
		}
	}
}

// 8.1, 8.4: of any lengths: a long product has the values, and the length, that it must have; one with nothing but bytes 0 is nothing.
func TestLongMul(t *testing.T) {
	r := rand.New(rand.NewSource(2))
	for _, n := range []int{1, 2, 255, 256, 257, 3000} {
		a, b := text(r, 5000)+"\x01", text(r, n)+"\x01"
		for _, got := range []string{poly.Mul(a, b), poly.Mul(b, a), poly.Mul(a+zeros(9), b+zeros(n))} {
			if len(got) != len(a)+len(b)-1 {
				t.Fatalf("Mul of %d and %d bytes: %d bytes", len(a), len(b), len(got))
			}
			for x := range 256 {
				if value(got, byte(x)) != gf.Mul(value(a, byte(x)), value(b, byte(x))) {
					t.Fatalf("Mul of %d and %d bytes: another value at %02x", len(a), len(b), x)
				}
			}
		}
	}
	if got := poly.Mul(zeros(1<<22), zeros(1<<22)); got != "" {
		t.Errorf("Mul of bytes 0: %d bytes", len(got))
	}
	if got := poly.Mul("a"+zeros(1<<22), "\x01"+zeros(1<<22)); got != "a" {
		t.Errorf("Mul of two bytes with many bytes 0 behind them: %d bytes", len(got))
	}
}

// R3: no answer shares memory with an argument, when it has the same bytes.
func TestSharesNothing(t *testing.T) {
	p := strings.Repeat("p", 100)
	quotient, _, _ := poly.Rest(p, "\x01")
	_, rest, _ := poly.Rest(p, p+"p")
	for i, got := range []string{poly.Trim(p), poly.Add(p, ""), poly.Add("", p), poly.Mul(p, "\x01"), poly.Mul("\x01", p), poly.Scale(p, 1), quotient, rest} {
		if got != p || unsafe.StringData(got) == unsafe.StringData(p) {
			t.Errorf("answer %d: %q, or an argument's own bytes", i, got)
		}
	}
}

// 8.2: the weights are what the document's words say, factor by factor, among the places, and beside them.
func TestWeights(t *testing.T) {
	r := rand.New(rand.NewSource(3))
	for _, n := range []int{0, 1, 2, 3, 5, 20, 255} {
		l := places(r, n)
		for x := 0; x < 256; x += 1 + n/20 {
			want := make([]byte, n)
			for i := range want {
				want[i] = 1
				for j := range n {
					if j != i {
						factor, _ := gf.Div(byte(x)^l[j], l[i]^l[j])
						want[i] = gf.Mul(want[i], factor)
					}
				}
			}
			if got, e := poly.Weights(l, byte(x)); got != string(want) || e != api.OK {
				t.Fatalf("Weights(%x, %02x): %x, %v, not %x", l, x, got, e, want)
			}
			p := text(r, n)
			if got, _ := gf.Dot(string(want), valuesAt(p, l)); got != value(p, byte(x)) {
				t.Fatalf("the values of %x at %x with the weights: %02x", p, l, got)
			}
		}
	}
}

// 8.2: at a place itself its weight is 1, and that of the others 0, of all bytes that there are, too.
func TestWeightsAtPlaces(t *testing.T) {
	for _, l := range []string{"\x00", "\xff", "\x07\x00\x09", rising(0, 256)} {
		for i := range len(l) {
			want := zeros(i) + "\x01" + zeros(len(l)-i-1)
			if got, e := poly.Weights(l, l[i]); got != want || e != api.OK {
				t.Fatalf("Weights(%x, %02x): %x, %v", l, l[i], got, e)
			}
		}
	}
}

// likePlaces are places of which two are alike, wherever they stand.
func likePlaces() []string {
	l := []string{"\x00\x00", "\x01\x01", "\xff\xff", "\x01\x02\x01", "\x02\x01\x01", "\x01\x01\x02", zeros(3), zeros(300), rising(0, 257), rising(1, 254) + "\x05"}
	for i := range 10 {
		for j := range i {
			b := []byte(rising(50, 10))
			b[i] = b[j]
			l = append(l, string(b))
		}
	}
	return l
}

// 8.2: of places that are not all unlike nothing is told, whatever the values and the byte are.
func TestLikePlaces(t *testing.T) {
	for _, l := range likePlaces() {
		for _, x := range []byte{0, 1, l[0], 255} {
			if got, e := poly.Weights(l, x); got != "" || e != api.ErrArg {
				t.Errorf("Weights(%x, %02x): %x, %v", l, x, got, e)
			}
			for _, values := range []string{zeros(len(l)), l, ""} {
				if got, e := poly.At(l, values, x); got != 0 || e != api.ErrArg {
					t.Errorf("At(%x, %x, %02x): %02x, %v", l, values, x, got, e)
				}
			}
		}
		for _, values := range []string{zeros(len(l)), l, ""} {
			if got, e := poly.Through(l, values); got != "" || e != api.ErrArg {
				t.Errorf("Through(%x, %x): %x, %v", l, values, got, e)
			}
		}
	}
}

// 8.2: two texts are points, if they have one length, of at most 255 bytes.
func TestLengthsOfPoints(t *testing.T) {
	for n := range 6 {
		for m := range 6 {
			got, e := poly.At(rising(0, n), rising(9, m), 7)
			p, f := poly.Through(rising(0, n), rising(9, m))
			if n == m && (e != api.OK || f != api.OK) || n != m && (got != 0 || e != api.ErrArg || p != "" || f != api.ErrArg) {
				t.Errorf("%d places, %d values: %02x, %v; %x, %v", n, m, got, e, p, f)
			}
		}
	}
	for first := range 256 {
		if got, e := poly.At(rising(first, 256), rising(0, 256), 7); got != 0 || e != api.ErrArg {
			t.Fatalf("At of 256 points: %02x, %v", got, e)
		}
		if p, e := poly.Through(rising(first, 256), rising(0, 256)); p != "" || e != api.ErrArg {
			t.Fatalf("Through 256 points: %x, %v", p, e)
		}
	}
	if got, e := poly.At(rising(1, 255), rising(1, 254), 7); got != 0 || e != api.ErrArg {
		t.Errorf("At of 255 places, 254 values: %02x, %v", got, e)
	}
	if got, e := poly.At(rising(1, 255), rising(1, 255), 0); got != 0 || e != api.OK {
		t.Errorf("At 0 of what is x at 255 places: %02x, %v", got, e)
	}
	if p, e := poly.Through(rising(1, 255), rising(1, 255)); p != "\x00\x01" || e != api.OK {
		t.Errorf("Through 255 points of x: %x, %v", p, e)
	}
}

// 8.2: of no points the value is 0 everywhere, and nothing goes through them.
func TestNoPoints(t *testing.T) {
	for x := range 256 {
		if got, e := poly.At("", "", byte(x)); got != 0 || e != api.OK {
			t.Errorf("At no places of %02x: %02x, %v", x, got, e)
		}
		if got, e := poly.Weights("", byte(x)); got != "" || e != api.OK {
			t.Errorf("Weights of no places for %02x: %x, %v", x, got, e)
		}
	}
	if got, e := poly.Through("", ""); got != "" || e != api.OK {
		t.Errorf("Through no points: %x, %v", got, e)
	}
}

// 8.2: whatever the values are, what goes through the points has them there, is trimmed, and has no more bytes than there are points; At tells its values at all bytes.
func TestAtAndThrough(t *testing.T) {
	r := rand.New(rand.NewSource(4))
	for _, n := range []int{1, 2, 3, 4, 7, 30, 254, 255} {
		for range 3 {
			l, values := places(r, n), text(r, n)
			p, e := poly.Through(l, values)
			if e != api.OK || len(p) > n || p != trim(p) || valuesAt(p, l) != values {
				t.Fatalf("Through(%x, %x): %x, %v", l, values, p, e)
			}
			for x := range 256 {
				if n > 200 && x%20 != 0 {
					continue
				}
				if got, e := poly.At(l, values, byte(x)); got != value(p, byte(x)) || e != api.OK {
					t.Fatalf("At(%x, %x, %02x): %02x, %v, not %02x", l, values, x, got, e, value(p, byte(x)))
				}
			}
		}
		l := places(r, n)
		if p, e := poly.Through(l, zeros(n)); p != "" || e != api.OK {
			t.Errorf("Through(%x) with values 0: %x, %v", l, p, e)
		}
		if p, e := poly.Through(l, strings.Repeat("\x05", n)); p != "\x05" || e != api.OK {
			t.Errorf("Through(%x) with values 5: %x, %v", l, p, e)
		}
	}
}

// 8.2: of all polynomials of two bytes just one goes through two points.
func TestJustOneGoesThrough(t *testing.T) {
	for _, c := range []struct{ l, values string }{{"\x00\x01", "\x00\x00"}, {"\x01\x02", "\x03\x00"}, {"\xfe\x10", "\x53\x53"}, {"\x80\x00", "\x01\xff"}} {
		got, e := poly.Through(c.l, c.values)
		found := 0
		for i := range 256 * 256 {
			if p := string([]byte{byte(i), byte(i >> 8)}); valuesAt(p, c.l) == c.values {
				found++
				if got != trim(p) || e != api.OK {
					t.Errorf("Through(%x, %x): %x, %v, not %x", c.l, c.values, got, e, trim(p))
				}
			}
		}
		if found != 1 {
			t.Errorf("%d polynomials through %x, %x", found, c.l, c.values)
		}
	}
}

// 8.3: quotient and rest of all kinds of polynomials put together again; by what is 0 there are none.
func TestRest(t *testing.T) {
	for _, a := range some() {
		for _, b := range some() {
			quotient, rest, e := poly.Rest(a, b)
			if trim(b) == "" {
				if quotient != "" || rest != "" || e != api.ErrArg {
					t.Fatalf("Rest(%x, %x): %x, %x, %v", a, b, quotient, rest, e)
				}
				continue
			}
			if e != api.OK || quotient != trim(quotient) || rest != trim(rest) || len(rest) >= len(trim(b)) || sum(product(quotient, b), rest) != trim(a) {
				t.Fatalf("Rest(%x, %x): %x, %x, %v", a, b, quotient, rest, e)
			}
		}
	}
}

// 8.3: what was put together is taken apart: with a rest and without one, with bytes 0 behind it, and with nothing to take.
func TestRestOfKnown(t *testing.T) {
	r := rand.New(rand.NewSource(5))
	for range 300 {
		quotient, b := text(r, r.Intn(40)), text(r, r.Intn(30))+"\x09"
		rest := text(r, r.Intn(len(b)))
		a := poly.Add(poly.Mul(quotient, b), rest) + zeros(r.Intn(3))
		b += zeros(r.Intn(3))
		got, left, e := poly.Rest(a, b)
		if got != trim(quotient) || left != trim(rest) || e != api.OK {
			t.Fatalf("Rest(%x, %x): %x, %x, %v, not %x, %x", a, b, got, left, e, quotient, rest)
		}
	}
	for _, c := range []struct{ a, b, quotient, rest string }{
		{"", "\x01", "", ""}, {"\x00\x00", "a\x00", "", ""}, {"a", "ab", "", "a"}, {"a\x00\x00", "ab", "", "a"}, {"ab", "ab", "\x01", ""}, {"abc", "\x01", "abc", ""}, {"\x02\x04", "\x02", "\x01\x02", ""}, {"\x00\x00\x01", "\x00\x01", "\x00\x01", ""}, {"\x07\x00\x01", "\x00\x01\x00\x00", "\x00\x01", "\x07"},
	} {
		if quotient, rest, e := poly.Rest(c.a, c.b); quotient != c.quotient || rest != c.rest || e != api.OK {
			t.Errorf("Rest(%x, %x): %x, %x, %v", c.a, c.b, quotient, rest, e)
		}
	}
}

// 8.3: of any lengths.
func TestLongRest(t *testing.T) {
	r := rand.New(rand.NewSource(6))
	for _, n := range []int{1, 256, 3000} {
		quotient, b, rest := text(r, 5000)+"\x01", text(r, n)+"\x01", text(r, n-1)+"\x01"
		got, left, e := poly.Rest(poly.Add(poly.Mul(quotient, b), rest), b)
		if got != quotient || left != rest || e != api.OK {
			t.Errorf("Rest by %d bytes: %d and %d bytes, %v", len(b), len(got), len(left), e)
		}
	}
}

// 8.4: values of sums and products are those of the values; what goes through as many points of a polynomial as it has bytes, or more, is that one.
func TestItFollows(t *testing.T) {
	r := rand.New(rand.NewSource(8))
	for n := range 60 {
		a, b := text(r, n), text(r, r.Intn(60))
		for x := range 256 {
			va, vb := poly.Value(a, byte(x)), poly.Value(b, byte(x))
			if poly.Value(poly.Add(a, b), byte(x)) != gf.Add(va, vb) || poly.Value(poly.Mul(a, b), byte(x)) != gf.Mul(va, vb) || poly.Value(poly.Scale(a, byte(n)), byte(x)) != gf.Mul(va, byte(n)) {
				t.Fatalf("values of sum and product of %x and %x at %02x", a, b, x)
			}
		}
		for _, m := range []int{n, n + 1, n + 9} {
			l := places(r, m)
			if got, e := poly.Through(l, valuesAt(a, l)); got != trim(a) || e != api.OK {
				t.Errorf("Through %d points of %x: %x, %v", m, a, got, e)
			}
		}
	}
	p := text(r, 255)
	for _, l := range []string{rising(0, 255), rising(1, 255), places(r, 255)} {
		if got, e := poly.Through(l, valuesAt(p, l)); got != trim(p) || e != api.OK {
			t.Errorf("Through 255 points of %x: %x, %v", p, got, e)
		}
	}
}
