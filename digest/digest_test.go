package digest_test

import (
	"crypto/sha256"
	"encoding/hex"
	"math"
	"math/rand"
	"strings"
	"testing"

	"lockbox/api"
	"lockbox/digest"
)

func want(s string) string {
	d := sha256.Sum256([]byte(s))
	return string(d[:])
}

func text(r *rand.Rand, n int) string {
	b := make([]byte, n)
	r.Read(b)
	return string(b)
}

// 1.1, P6: digests that the standard and its examples tell.
func TestSumOfKnownTexts(t *testing.T) {
	for _, c := range []struct{ s, hex string }{
		{"", "e3b0c44298fc1c149afbf4c8996fb92427ae41e4649b934ca495991b7852b855"},
		{"abc", "ba7816bf8f01cfea414140de5dae2223b00361a396177a9cb410ff61f20015ad"},
		{"abcdbcdecdefdefgefghfghighijhijkijkljklmklmnlmnomnopnopq", "248d6a61d20638b8e5c026930c3e6039a33ce45964ff2167f6ecedd419db06c1"},
		{"\xbd", "68325720aabd7c82f30f554b313d0570c95accbb7dc4b5aae11204c08ffe732b"},
		{strings.Repeat("a", 1000000), "cdc76e5c9914fb9281a1c7e284d73e67f1809a48a497200e046d39ccc7112cd0"},
	} {
		if got := hex.EncodeToString([]byte(digest.Sum(c.s))); got != c.hex {
			t.Errorf("Sum of %d bytes: %s, not %s", len(c.s), got, c.hex)
		}
	}
}

// 1.1, P6: every length around the ends of blocks, and long texts.
func TestSumOfAllLengths(t *testing.T) {
	r := rand.New(rand.NewSource(1))
	for n := range 520 {
		for _, s := range []string{text(r, n), strings.Repeat("\x00", n), strings.Repeat("\xff", n)} {
			if digest.Sum(s) != want(s) {
				t.Fatalf("Sum of %d bytes is another one: %x", n, s)
			}
		}
	}
	for _, n := range []int{api.MaxText - 1, api.MaxText, api.MaxText + 1, 1<<20 + 55, 1<<20 + 56} {
		s := text(r, n)
		if digest.Sum(s) != want(s) {
			t.Errorf("Sum of %d bytes is another one", n)
		}
	}
}

// 1.1: a text of more bits than 32 bits count.
func TestSumOfManyBits(t *testing.T) {
	part := text(rand.New(rand.NewSource(3)), 1<<20)
	run, other := digest.Begin(), sha256.New()
	for range 1<<9 + 1 {
		run = run.With(part)
		other.Write([]byte(part))
	}
	if run.Sum() != string(other.Sum(nil)) || run.Size() != 1<<29+1<<20 {
		t.Errorf("the digest of %d bytes is another one", run.Size())
	}
}

// 1.1: Join is of all parts, one behind the other.
func TestJoin(t *testing.T) {
	for _, parts := range [][]string{nil, {}, {""}, {"", ""}, {"abc"}, {"a", "", "bc"}, {"", "abc", ""}, {strings.Repeat("x", 64), strings.Repeat("y", 64)}, {strings.Repeat("x", 63), "yz", strings.Repeat("w", 200)}} {
		if digest.Join(parts...) != want(strings.Join(parts, "")) {
			t.Errorf("Join of %q is another one", parts)
		}
	}
	if digest.Join("a", "b") == digest.Join("b", "a") {
		t.Error("Join does not heed the order")
	}
}

// 1.1: Twice is the digest of the digest's bytes.
func TestTwice(t *testing.T) {
	for _, s := range []string{"", "abc", strings.Repeat("z", 100)} {
		if digest.Twice(s) != want(want(s)) {
			t.Errorf("Twice of %q is another one", s)
		}
	}
}

// 1.1: Blocks of any number.
func TestBlocks(t *testing.T) {
	for _, c := range []struct{ n, blocks int }{
		{math.MinInt, 0}, {-64, 0}, {-1, 0}, {0, 1}, {1, 1}, {55, 1}, {56, 2}, {63, 2}, {64, 2}, {119, 2}, {120, 3}, {128, 3}, {183, 3}, {184, 4},
		{math.MaxInt, math.MaxInt/64 + 2}, {math.MaxInt - 8, math.MaxInt/64 + 1},
	} {
		if got := digest.Blocks(c.n); got != c.blocks {
			t.Errorf("Blocks(%d): %d, not %d", c.n, got, c.blocks)
		}
	}
}

// 1.2: the zero Run is Begin(), and nothing was taken into it.
func TestBegin(t *testing.T) {
	var zero digest.Run
	if zero != digest.Begin() || zero.Size() != 0 || zero.Sum() != want("") || zero.With("abc").Sum() != want("abc") {
		t.Error("the zero Run is not Begin()")
	}
	if digest.Begin().With("").Size() != 0 || digest.Begin().With("").Sum() != want("") {
		t.Error("an empty text is taken for something")
	}
}

// 1.2: With leaves its Run as it is, and Sum may be asked at any time, again and again.
func TestWithLeavesItsRun(t *testing.T) {
	for _, n := range []int{0, 1, 55, 56, 63, 64, 65, 127, 128} {
		s := strings.Repeat("s", n)
		r := digest.Begin().With(s)
		for _, more := range []string{"", "a", strings.Repeat("b", 63), strings.Repeat("c", 64), strings.Repeat("d", 300)} {
			x := r.With(more)
			if x.Sum() != want(s+more) || x.Sum() != want(s+more) || x.Size() != n+len(more) {
				t.Errorf("%d bytes and %d behind them: another digest or size", n, len(more))
			}
			if r.Sum() != want(s) || r.Size() != n {
				t.Errorf("With of %d bytes changed a run of %d", len(more), n)
			}
		}
	}
}

// 1.3: in whichever two parts, or in many, a text comes, its digest is one.
func TestPartsDoNotCount(t *testing.T) {
	r := rand.New(rand.NewSource(2))
	s := text(r, 200)
	for i := range len(s) + 1 {
		if digest.Join(s[:i], s[i:]) != want(s) {
			t.Fatalf("cut at %d: another digest", i)
		}
	}
	for range 300 {
		s := text(r, r.Intn(1000))
		run, rest := digest.Begin(), s
		for rest != "" {
			n := r.Intn(min(len(rest), 150) + 1)
			run, rest = run.With(rest[:n]), rest[n:]
		}
		if run.Sum() != want(s) || run.Size() != len(s) || run != digest.Begin().With(s) {
			t.Fatalf("in parts %d bytes have another digest or size", len(s))
		}
	}
}

// 1.3: from one Run several go on, each for itself.
func TestRunsGoOnEachForItself(t *testing.T) {
	front := digest.Begin().With(strings.Repeat("f", 100))
	a, b := front, front
	var ta, tb string
	for i := range 100 {
		pa, pb := strings.Repeat("a", i%7), strings.Repeat("b", i%11)
		a, b, ta, tb = a.With(pa), b.With(pb), ta+pa, tb+pb
	}
	f := strings.Repeat("f", 100)
	if a.Sum() != want(f+ta) || b.Sum() != want(f+tb) || front.Sum() != want(f) {
		t.Error("runs that go on from one disturb one another")
	}
}
