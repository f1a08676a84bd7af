package shamir_test

import (
	"math"
	"math/rand"
	"slices"
	"strings"
	"testing"

	"lockbox/api"
	"lockbox/canon"
	"lockbox/gf"
	"lockbox/shamir"
)

func text(r *rand.Rand, n int) string {
	b := make([]byte, n)
	r.Read(b)
	return string(b)
}

func zeros(n int) string { return strings.Repeat("\x00", n) }

// value is the byte i of the share x as the document's words say: the secret's byte, and behind it the bytes i, m + i, 2 m + i, .. of those that are drawn, at the powers of x.
func value(secret, drawn string, i, x int) byte {
	sum, power := secret[i], byte(1)
	for j := i; j < len(drawn); j += len(secret) {
		power = gf.Mul(power, byte(x))
		sum ^= gf.Mul(drawn[j], power)
	}
	return sum
}

// shares are those into which a secret is split, reckoned byte by byte.
func shares(secret string, need, n int, drawn string) []api.Share {
	var l []api.Share
	for x := 1; x <= n; x++ {
		y := make([]byte, len(secret))
		for i := range y {
			y[i] = value(secret, drawn, i, x)
		}
		l = append(l, api.Share{X: x, Need: need, Y: string(y)})
	}
	return l
}

// some are m bytes, split into n shares of which so many are needed.
func some(r *rand.Rand, m, need, n int) (secret, drawn string, l []api.Share) {
	secret, drawn = text(r, m), text(r, (need-1)*m)
	return secret, drawn, shares(secret, need, n, drawn)
}

// pick are so many of some shares, in any order.
func pick(r *rand.Rand, l []api.Share, n int) []api.Share {
	var out []api.Share
	for _, i := range r.Perm(len(l))[:n] {
		out = append(out, l[i])
	}
	return out
}

// subset are the shares whose bits are set.
func subset(l []api.Share, bits int) []api.Share {
	var out []api.Share
	for i, s := range l {
		if bits>>i&1 == 1 {
			out = append(out, s)
		}
	}
	return out
}

// with is a copy of a list in which the share i is another one.
func with(l []api.Share, i int, s api.Share) []api.Share {
	l = slices.Clone(l)
	l[i] = s
	return l
}

// ill are shares that may not be.
func ill() []api.Share {
	var l []api.Share
	for _, n := range []int{0, -1, 256, 257, 511, 1 << 32, 1<<32 + 1, math.MinInt, math.MaxInt} {
		l = append(l, api.Share{X: n, Need: 2, Y: "ab"}, api.Share{X: 1, Need: n, Y: "ab"})
	}
	return append(l, api.Share{X: 1, Need: 2}, api.Share{X: 1, Need: 2, Y: strings.Repeat("a", 65)}, api.Share{X: 1, Need: 2, Y: zeros(1 << 16)}, api.Share{})
}

// 9.1: the document's example, and others reckoned by hand.
func TestExamples(t *testing.T) {
	for _, c := range []struct {
		secret  string
		need, n int
		drawn   string
		ys      []string
	}{
		{"A", 2, 3, "\x01", []string{"\x40", "\x43", "\x42"}},
		{"A", 1, 3, "", []string{"A", "A", "A"}},
		// The polynomials 01 03 05 and 02 04 06: at 1 their bytes' sums, at 2 1 + 6 + 14 and 2 + 8 + 18.
		{"\x01\x02", 3, 3, "\x03\x04\x05\x06", []string{"\x07\x00", "\x13\x12", "\x15\x10"}},
		{"\x00", 2, 2, "\x80", []string{"\x80", "\x1b"}},
		{"\x05\x06", 2, 2, "\x00\x00", []string{"\x05\x06", "\x05\x06"}},
	} {
		l, e := shamir.Split(c.secret, c.need, c.n, c.drawn)
		if e != api.OK || len(l) != c.n {
			t.Fatalf("Split(%x, %d, %d, %x): %v, %v", c.secret, c.need, c.n, c.drawn, l, e)
		}
		for i, y := range c.ys {
			if want := (api.Share{X: i + 1, Need: c.need, Y: y}); l[i] != want {
				t.Errorf("Split(%x, %d, %d, %x): the share %d is %v, not %v", c.secret, c.need, c.n, c.drawn, i+1, l[i], want)
			}
		}
	}
}

// 9.1: what may be has X and Need from 1 to 255, and 1 to 64 bytes.
func TestCheck(t *testing.T) {
	for _, x := range []int{1, 2, 128, 255} {
		for _, need := range []int{1, 3, 255} {
			for _, n := range []int{1, 2, 63, 64} {
				if !shamir.Check(api.Share{X: x, Need: need, Y: zeros(n)}) {
					t.Errorf("the share %d, need %d, of %d bytes may not be", x, need, n)
				}
			}
		}
	}
	for _, s := range ill() {
		if shamir.Check(s) {
			t.Errorf("%.60v may be", s)
		}
	}
}

// 9.1: shares of secrets of all lengths, and of any numbers, are what the document's words say.
func TestSplit(t *testing.T) {
	r := rand.New(rand.NewSource(1))
	split := func(m, need, n int) {
		secret, drawn, want := some(r, m, need, n)
		if l, e := shamir.Split(secret, need, n, drawn); e != api.OK || !slices.Equal(l, want) {
			t.Errorf("Split(%x, %d, %d, %x): %v, %v, not %v", secret, need, n, drawn, l, e, want)
		}
	}
	for m := 1; m <= 64; m++ {
		for need := 1; need <= 4; need++ {
			split(m, need, need+r.Intn(5))
		}
	}
	for _, c := range [][3]int{{1, 1, 1}, {1, 1, 255}, {64, 1, 255}, {1, 255, 255}, {64, 254, 255}, {64, 255, 255}, {2, 128, 200}} {
		split(c[0], c[1], c[2])
	}
	for _, secret := range []string{zeros(64), "\x00", "\xff", "\xc3\x28"} {
		drawn := zeros(2 * len(secret))
		if l, e := shamir.Split(secret, 3, 5, drawn); e != api.OK || !slices.Equal(l, shares(secret, 3, 5, drawn)) {
			t.Errorf("Split(%x) with bytes 0: %v, %v", secret, l, e)
		}
	}
}

// 9.1: what can't be split so.
func TestSplitOfWrong(t *testing.T) {
	for i, c := range []struct {
		secret  string
		need, n int
		drawn   string
	}{
		{"", 1, 1, ""}, {"", 2, 3, ""}, {zeros(65), 1, 1, ""}, {zeros(65), 2, 2, zeros(65)}, {zeros(1 << 16), 1, 1, ""},
		{"ab", 0, 1, ""}, {"ab", 0, 0, ""}, {"ab", 0, 3, "xy"}, {"ab", -1, 3, ""}, {"ab", math.MinInt, 3, ""}, {"ab", math.MinInt + 1, 3, ""},
		{"ab", 2, 1, "xy"}, {"ab", 1, 0, ""}, {"ab", 4, 3, "xyxyxy"}, {"ab", 1, -1, ""}, {"ab", -2, -1, ""}, {"ab", math.MaxInt, 3, ""}, {"ab", 1, math.MinInt, ""},
		{"ab", 1, 256, ""}, {"ab", 2, 256, "xy"}, {"ab", 256, 256, zeros(510)}, {"ab", 1, math.MaxInt, ""}, {"ab", math.MaxInt, math.MaxInt, ""},
		{"ab", 1, 3, "x"}, {"ab", 1, 3, "xy"}, {"ab", 2, 3, ""}, {"ab", 2, 3, "x"}, {"ab", 2, 3, "xyz"}, {"ab", 2, 3, "xyxy"}, {"ab", 3, 3, "xyx"}, {"ab", 3, 3, "xyxyx"}, {"a", 255, 255, zeros(253)}, {"a", 255, 255, zeros(255)},
	} {
		if l, e := shamir.Split(c.secret, c.need, c.n, c.drawn); e != api.ErrArg || len(l) != 0 {
			t.Errorf("Split %d: %v, %v", i, l, e)
		}
	}
}

// 9.2, 9.5: of all sets of shares those with as many as are needed, or more, combine to the secret, in any order; the others are too few.
func TestCombineOfAllSets(t *testing.T) {
	r := rand.New(rand.NewSource(2))
	for n := 1; n <= 6; n++ {
		for need := 1; need <= n; need++ {
			secret, _, l := some(r, 1+r.Intn(64), need, n)
			for bits := range 1 << n {
				set := subset(l, bits)
				set = pick(r, set, len(set))
				was := slices.Clone(set)
				got, e := shamir.Combine(set)
				if len(set) < need && (got != "" || e != api.ErrNone) || len(set) >= need && (got != secret || e != api.OK) {
					t.Errorf("Combine %d of %d, need %d: %x, %v, not %x", len(set), n, need, got, e, secret)
				}
				if !slices.Equal(set, was) {
					t.Error("Combine puts what is handed in into another order (R3)")
				}
			}
		}
	}
}

// 9.2, 9.5: secrets of 1 to 64 bytes, and the most shares that there are.
func TestCombine(t *testing.T) {
	r := rand.New(rand.NewSource(3))
	combine := func(m, need, n, of int) {
		secret, _, l := some(r, m, need, n)
		if got, e := shamir.Combine(pick(r, l, of)); got != secret || e != api.OK {
			t.Errorf("Combine %d of %d, need %d: %x, %v, not %x", of, n, need, got, e, secret)
		}
	}
	for m := 1; m <= 64; m++ {
		combine(m, 1+r.Intn(5), 9, 5)
	}
	for _, c := range [][4]int{{1, 255, 255, 255}, {64, 255, 255, 255}, {64, 254, 255, 255}, {64, 1, 255, 255}, {1, 1, 255, 1}, {64, 170, 255, 255}, {3, 100, 255, 100}} {
		combine(c[0], c[1], c[2], c[3])
	}
	zero := shares(zeros(64), 3, 5, zeros(128))
	if got, e := shamir.Combine(zero[2:]); got != zeros(64) || e != api.OK {
		t.Errorf("Combine shares of bytes 0: %x, %v", got, e)
	}
}

// 9.2: none, and too few of those that are needed.
func TestTooFew(t *testing.T) {
	r := rand.New(rand.NewSource(4))
	_, _, l := some(r, 2, 255, 255)
	for i, few := range [][]api.Share{nil, {}, l[:1], l[:254], l[1:]} {
		if got, e := shamir.Combine(few); got != "" || e != api.ErrNone {
			t.Errorf("Combine %d: %x, %v", i, got, e)
		}
		for _, x := range []int{1, 255, 0, -1, 256} { // 9.2 names what is too few ahead of a wrong x
			if got, e := shamir.Recover(few, x); got != (api.Share{}) || e != api.ErrNone {
				t.Errorf("Recover %d: %v, %v", i, got, e)
			}
		}
	}
}

// notTogether are lists in which a share may not be, or does not go with the others, made of at least two that do: wherever it stands, however few there are.
func notTogether(l []api.Share) [][]api.Share {
	var out [][]api.Share
	for i, s := range l {
		for _, bad := range ill() {
			out = append(out, with(l, i, bad), []api.Share{bad}, []api.Share{s, bad}, []api.Share{bad, s})
		}
		long, short, more, less, twice := s, s, s, s, l[(i+1)%len(l)]
		long.Y += "\x00"
		short.Y = short.Y[1:]
		more.Need++
		less.Need--
		out = append(out, with(l, i, long), with(l, i, short), with(l, i, more), with(l, i, less), with(l, i, twice), []api.Share{twice, twice}, []api.Share{s, s})
		twice.Y = s.Y
		out = append(out, with(l, i, twice), append(slices.Clone(l), s))
	}
	return out
}

// 9.2: shares that may not be, or do not go together, are refused ahead of all else.
func TestNotTogether(t *testing.T) {
	r := rand.New(rand.NewSource(5))
	_, _, l := some(r, 3, 3, 5)
	odd := with(l, 4, api.Share{X: 5, Need: 3, Y: "odd"})
	_, _, all := some(r, 3, 3, 255)
	lists := append(notTogether(l), notTogether(odd)...)
	lists = append(lists, notTogether(l[:2])...)
	lists = append(lists, append(all, api.Share{X: 256, Need: 3, Y: "abc"}), append(all, all[254]), slices.Repeat(l, 1000))
	for i, bad := range lists {
		if got, e := shamir.Combine(bad); got != "" || e != api.ErrArg {
			t.Errorf("Combine %d: %x, %v", i, got, e)
		}
		for _, x := range []int{1, 200, 0} {
			if got, e := shamir.Recover(bad, x); got != (api.Share{}) || e != api.ErrArg {
				t.Errorf("Recover %d: %v, %v", i, got, e)
			}
		}
	}
}

// 9.2: each bit of each share that is turned is seen, if there are more than are needed; if there are not, it is another secret.
func TestOddShares(t *testing.T) {
	r := rand.New(rand.NewSource(6))
	for need := 1; need <= 4; need++ {
		secret, _, l := some(r, 3, need, need+2)
		for i, s := range l {
			for bit := range 24 {
				y := []byte(s.Y)
				y[bit/8] ^= 1 << (bit % 8)
				odd := with(l, i, api.Share{X: s.X, Need: need, Y: string(y)})
				for _, set := range [][]api.Share{odd, pick(r, odd, len(odd)), odd[min(i, 1):][:need+1]} {
					if got, e := shamir.Combine(set); got != "" || e != api.ErrProof {
						t.Fatalf("Combine %v: %x, %v", set, got, e)
					}
					for _, x := range []int{1, 100, 0, -1, 256} {
						if got, e := shamir.Recover(set, x); got != (api.Share{}) || e != api.ErrProof {
							t.Fatalf("Recover %v, %d: %v, %v", set, x, got, e)
						}
					}
				}
				if got, e := shamir.Combine(odd[min(i, 2):][:need]); got == secret || e != api.OK {
					t.Fatalf("Combine as many as are needed, one odd: %x, %v", got, e)
				}
			}
		}
	}
}

// 9.2: each share is told by others, also the highest, and those that are there.
func TestRecover(t *testing.T) {
	r := rand.New(rand.NewSource(7))
	for _, c := range [][3]int{{1, 1, 1}, {5, 1, 3}, {64, 3, 3}, {7, 3, 6}, {2, 12, 20}, {1, 255, 255}} {
		_, _, l := some(r, c[0], c[1], 255)
		set := pick(r, l, c[2])
		was := slices.Clone(set)
		for x := 1; x <= 255; x++ {
			if got, e := shamir.Recover(set, x); got != l[x-1] || e != api.OK {
				t.Fatalf("Recover the share %d by %v: %v, %v, not %v", x, set, got, e, l[x-1])
			}
		}
		for _, x := range []int{0, -1, -255, 256, 257, 511, 1 << 32, 1<<32 + 1, math.MinInt, math.MaxInt} {
			if got, e := shamir.Recover(set, x); got != (api.Share{}) || e != api.ErrArg {
				t.Errorf("Recover the share %d: %v, %v", x, got, e)
			}
		}
		if !slices.Equal(set, was) {
			t.Error("Recover puts what is handed in into another order (R3)")
		}
	}
}

// 9.3, 9.5: whatever other secret there is, with some bytes it is split into just these shares, one fewer than are needed; of the secret itself they are those that were drawn.
func TestExplain(t *testing.T) {
	r := rand.New(rand.NewSource(8))
	for _, c := range [][3]int{{1, 2, 2}, {1, 2, 5}, {64, 2, 3}, {5, 3, 5}, {64, 5, 9}, {3, 40, 60}, {1, 255, 255}, {2, 254, 255}} {
		secret, drawn, l := some(r, c[0], c[1], c[2])
		few := pick(r, l, c[1]-1)
		was := slices.Clone(few)
		if got, e := shamir.Explain(few, secret); got != drawn || e != api.OK {
			t.Errorf("Explain %d shares and their secret: %x, %v, not %x", len(few), got, e, drawn)
		}
		for range 5 {
			explained(t, few, text(r, c[0]), c[2])
		}
		explained(t, few, zeros(c[0]), c[2])
		if !slices.Equal(few, was) {
			t.Error("Explain changes what is handed in (R3)")
		}
	}
}

// explained asks whether a secret is explained by some shares among n.
func explained(t *testing.T, few []api.Share, secret string, n int) {
	t.Helper()
	drawn, e := shamir.Explain(few, secret)
	if e != api.OK || len(drawn) != len(few)*len(secret) {
		t.Fatalf("Explain %v, %x: %x, %v", few, secret, drawn, e)
	}
	l := shares(secret, len(few)+1, n, drawn)
	for _, s := range few {
		if l[s.X-1] != s {
			t.Errorf("%x is split into %v, not %v", secret, l[s.X-1], s)
		}
	}
}

// 9.3, 9.5: shares that no secret was split into are explained, too: any bytes, and bytes 0, behind which a polynomial ends early.
func TestExplainOfAnyShares(t *testing.T) {
	r := rand.New(rand.NewSource(9))
	for range 300 {
		need, m := 2+r.Intn(6), 1+r.Intn(6)
		var few []api.Share
		for _, x := range r.Perm(255)[:need-1] {
			few = append(few, api.Share{X: x + 1, Need: need, Y: text(r, m)})
		}
		explained(t, few, text(r, m), 255)
		for i := range few {
			few[i].Y = zeros(m)
		}
		explained(t, few, zeros(m), 255)
		if drawn, _ := shamir.Explain(few, zeros(m)); drawn != zeros((need-1)*m) {
			t.Errorf("Explain bytes 0: %x", drawn)
		}
	}
}

// 9.5: fewer than are needed tell nothing: each byte of a secret there may be goes with them, and with as many drawn bytes as any other.
func TestFewerTellNothing(t *testing.T) {
	seen := map[byte]bool{}
	few := []api.Share{{X: 7, Need: 2, Y: "\x5a"}}
	for c := range 256 {
		drawn, e := shamir.Explain(few, string([]byte{byte(c)}))
		if e != api.OK || len(drawn) != 1 || seen[drawn[0]] || value(string([]byte{byte(c)}), drawn, 0, 7) != 0x5a {
			t.Fatalf("Explain the secret %02x: %x, %v", c, drawn, e)
		}
		seen[drawn[0]] = true
	}
	// Two fewer: whatever a share that is not told says, each secret goes with them still.
	for c := range 256 {
		l := []api.Share{{X: 2, Need: 3, Y: "\x01"}, {X: 3, Need: 3, Y: string([]byte{byte(c)})}}
		explained(t, l, "\x33", 3)
		explained(t, l, string([]byte{byte(c)}), 3)
	}
}

// 9.3: what can't be explained: not just one fewer than are needed, at least one; another length; shares that do not go together.
func TestExplainOfWrong(t *testing.T) {
	r := rand.New(rand.NewSource(10))
	_, _, l := some(r, 3, 4, 6)
	_, _, alone := some(r, 3, 1, 2)
	type wrong struct {
		l      []api.Share
		secret string
	}
	all := []wrong{{nil, ""}, {nil, "abc"}, {[]api.Share{}, "abc"}, {l[:1], "abc"}, {l[:2], "abc"}, {l[:4], "abc"}, {l, "abc"}, {alone, "abc"}, {alone[:1], "abc"}, {l[:3], ""}, {l[:3], "ab"}, {l[:3], "abcd"}, {l[:3], zeros(65)}}
	for _, bad := range notTogether(l[:3]) {
		all = append(all, wrong{bad, "abc"}, wrong{bad, "ab"})
	}
	for i, c := range all {
		if got, e := shamir.Explain(c.l, c.secret); got != "" || e != api.ErrArg {
			t.Errorf("Explain %d: %x, %v", i, got, e)
		}
	}
}

// 9.3: each share is exclusive or that of a secret of bytes 0; the secret stays, and the shares of before no longer go with those of now.
func TestRefresh(t *testing.T) {
	r := rand.New(rand.NewSource(11))
	for _, c := range [][3]int{{1, 1, 1}, {5, 1, 4}, {3, 2, 2}, {64, 2, 5}, {7, 3, 6}, {1, 20, 255}, {2, 255, 255}} {
		m, need, n := c[0], c[1], c[2]
		secret, _, l := some(r, m, need, n)
		was, drawn := slices.Clone(l), text(r, (need-1)*m)
		if need > 1 {
			drawn = "\x01" + drawn[1:]
		}
		fresh, e := shamir.Refresh(l, drawn)
		if e != api.OK || len(fresh) != n || !slices.Equal(l, was) {
			t.Fatalf("Refresh %v: %v, %v", was, fresh, e)
		}
		for i, s := range shares(zeros(m), need, n, drawn) {
			y := []byte(s.Y)
			for j := range y {
				y[j] ^= l[i].Y[j]
			}
			if s.Y = string(y); fresh[i] != s {
				t.Errorf("Refresh %v: %v, not %v", l[i], fresh[i], s)
			}
		}
		if got, e := shamir.Combine(pick(r, fresh, need)); got != secret || e != api.OK {
			t.Errorf("Combine behind Refresh: %x, %v, not %x", got, e, secret)
		}
		if got, e := shamir.Combine(with(fresh, 0, l[0])); need > 1 && need < n && (got != "" || e != api.ErrProof) {
			t.Errorf("Combine of before and now: %x, %v", got, e)
		}
		if again, _ := shamir.Refresh(fresh, drawn); !slices.Equal(again, l) {
			t.Errorf("Refresh twice: %v, not %v", again, l)
		}
	}
}

// 9.3: shares need not lie on anything; with bytes 0 they stay, and are others than those handed in (R3).
func TestRefreshOfAnyShares(t *testing.T) {
	l := []api.Share{{X: 1, Need: 2, Y: "ab"}, {X: 2, Need: 2, Y: "cd"}, {X: 3, Need: 2, Y: "zz"}}
	was := slices.Clone(l)
	got, e := shamir.Refresh(l, "\x00\x00")
	if e != api.OK || !slices.Equal(got, was) {
		t.Fatalf("Refresh with bytes 0: %v, %v", got, e)
	}
	got[1].Y = "changed"
	if !slices.Equal(l, was) {
		t.Error("Refresh answers the list that is handed in")
	}
}

// 9.3: what can't be refreshed: not the shares 1 to n in order, too few, of another length of what is drawn.
func TestRefreshOfWrong(t *testing.T) {
	r := rand.New(rand.NewSource(12))
	_, _, l := some(r, 2, 3, 5)
	type wrong struct {
		l     []api.Share
		drawn string
	}
	back := slices.Clone(l)
	slices.Reverse(back)
	all := []wrong{{nil, ""}, {[]api.Share{}, ""}, {nil, "abcd"}, {l[:1], "abcd"}, {l[:2], "abcd"}, {l[1:], "abcd"}, {l[2:], "abcd"}, {back, "abcd"}, {append(slices.Clone(l[:3]), l[4]), "abcd"}, {[]api.Share{l[0], l[2], l[1]}, "abcd"}, {l, ""}, {l, "ab"}, {l, "abc"}, {l, "abcde"}, {l, "abcdef"}}
	for _, bad := range notTogether(l) {
		all = append(all, wrong{bad, "abcd"})
	}
	for i, c := range all {
		if got, e := shamir.Refresh(c.l, c.drawn); len(got) != 0 || e != api.ErrArg {
			t.Errorf("Refresh %d: %v, %v", i, got, e)
		}
	}
	alone := []api.Share{{X: 1, Need: 1, Y: "a"}}
	if got, e := shamir.Refresh(alone, "x"); len(got) != 0 || e != api.ErrArg {
		t.Errorf("Refresh of need 1 with a byte: %v, %v", got, e)
	}
}

// 9.4: a share's bytes, and that they are read as it was.
func TestText(t *testing.T) {
	for _, c := range []struct {
		s    api.Share
		want string
	}{
		{api.Share{X: 2, Need: 3, Y: "ab"}, "\x09\x01\x03\x01\x02\x01\x03\x08\x01\x02ab"},
		{api.Share{X: 1, Need: 1, Y: "\x00"}, "\x09\x01\x03\x01\x01\x01\x01\x08\x01\x01\x00"},
		{api.Share{X: 255, Need: 254, Y: strings.Repeat("\xff", 64)}, "\x09\x01\x03\x01\xff\x01\xfe\x08\x01\x40" + strings.Repeat("\xff", 64)},
	} {
		if got := shamir.Text(c.s); got != c.want {
			t.Errorf("Text of %v: %x, not %x", c.s, got, c.want)
		}
		if got, e := shamir.Read(c.want); got != c.s || e != api.OK {
			t.Errorf("Read(%x): %v, %v", c.want, got, e)
		}
	}
	for _, s := range ill() {
		if got := shamir.Text(s); got != "" {
			t.Errorf("Text of %.60v: %x", s, got)
		}
	}
	r := rand.New(rand.NewSource(13))
	for x := 1; x <= 255; x++ {
		s := api.Share{X: x, Need: 1 + r.Intn(255), Y: text(r, 1+r.Intn(64))}
		if got, e := shamir.Read(shamir.Text(s)); got != s || e != api.OK {
			t.Errorf("Read of %v: %v, %v", s, got, e)
		}
	}
}

// 9.4: bytes of no share that may be: cut off, with more behind them, of other shapes, of shares that may not be.
func TestReadOfWrong(t *testing.T) {
	whole := shamir.Text(api.Share{X: 2, Need: 3, Y: "ab"})
	l := []string{"", whole + "\x00", whole + whole, "\x00", "\xff", "\x09", zeros(1 << 17), "\x09\x01\x03\x01\x02\x02\x00\x03\x08\x01\x02ab", "\x09\x01\x03\x01\x02\x01\x03\x08\x02\x00\x02ab"}
	for i := range whole {
		l = append(l, whole[:i], whole[i+1:])
	}
	x, need, y := canon.Num(2), canon.Num(3), canon.Text("ab")
	items := []api.Item{
		canon.List(), canon.List(x), canon.List(x, need), canon.List(x, need, y, y), canon.List(x, need, y, canon.List()), canon.List(x, y, need), canon.List(y, x, need),
		canon.List(x, need, need), canon.List(y, need, y), canon.List(x, y, y), canon.List(x, need, canon.List(y)), canon.List(canon.List(x, need, y)), x, y,
		canon.List(canon.Num(0), need, y), canon.List(canon.Num(256), need, y), canon.List(canon.Num(api.MaxNum), need, y), canon.List(canon.Num(1<<32+1), need, y),
		canon.List(x, canon.Num(0), y), canon.List(x, canon.Num(256), y), canon.List(x, canon.Num(api.MaxNum), y),
		canon.List(x, need, canon.Text("")), canon.List(x, need, canon.Text(zeros(65))), canon.List(x, need, canon.Text(zeros(1000))),
	}
	for i, item := range items {
		s, e := canon.Encode(item)
		if e != api.OK {
			t.Fatalf("the item %d: %v", i, e)
		}
		l = append(l, s)
	}
	for _, s := range l {
		if got, e := shamir.Read(s); got != (api.Share{}) || e != api.ErrForm {
			t.Errorf("Read(%.40x): %v, %v", s, got, e)
		}
	}
}

// 9.4, P7: of any bytes, what is read has just these.
func TestReadOfAnyBytes(t *testing.T) {
	r := rand.New(rand.NewSource(14))
	whole, read := shamir.Text(api.Share{X: 200, Need: 3, Y: "abc"}), 0
	for range 100000 {
		b := []byte(whole)
		for range 1 + r.Intn(3) {
			b[r.Intn(len(b))] = byte(r.Intn(256) >> r.Intn(8))
		}
		s, e := shamir.Read(string(b))
		switch {
		case e == api.OK && shamir.Check(s) && shamir.Text(s) == string(b):
			read++
		case e != api.ErrForm || s != (api.Share{}):
			t.Fatalf("Read(%x): %v, %v", b, s, e)
		}
	}
	if read == 0 {
		t.Error("none was read")
	}
}
