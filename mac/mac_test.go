package mac_test

import (
	"crypto/hkdf"
	"crypto/hmac"
	"crypto/sha256"
	"encoding/binary"
	"encoding/hex"
	"math"
	"math/rand"
	"slices"
	"strings"
	"testing"

	"lockbox/api"
	"lockbox/digest"
	"lockbox/mac"
)

func text(r *rand.Rand, n int) string {
	b := make([]byte, n)
	r.Read(b)
	return string(b)
}

func bytesOf(t *testing.T, digits string) string {
	t.Helper()
	b, err := hex.DecodeString(digits)
	if err != nil {
		t.Fatal(err)
	}
	return string(b)
}

// code is the code of another maker.
func code(key, text string) string {
	h := hmac.New(sha256.New, []byte(key))
	h.Write([]byte(text))
	return string(h.Sum(nil))
}

// 4.1, P6: the codes of RFC 4231 (of its case 5 the first half), and the document's example.
func TestCodeOfKnownTexts(t *testing.T) {
	up := ""
	for i := range 25 {
		up += string([]byte{byte(i + 1)})
	}
	for i, c := range []struct{ key, text, digits string }{
		{"key", "The quick brown fox jumps over the lazy dog", "f7bc83f430538424b13298e6aa6fb143ef4d59a14946175997479dbc2d1a3cd8"},
		{"", "", "b613679a0814d9ec772f95d778c35fc5ff1697c493715653c6c712144292c5ad"},
		{strings.Repeat("\x0b", 20), "Hi There", "b0344c61d8db38535ca8afceaf0bf12b881dc200c9833da726e9376c2e32cff7"},
		{"Jefe", "what do ya want for nothing?", "5bdcc146bf60754e6a042426089575c75a003f089d2739839dec58b964ec3843"},
		{strings.Repeat("\xaa", 20), strings.Repeat("\xdd", 50), "773ea91e36800e46854db8ebd09181a72959098b3ef8c122d9635514ced565fe"},
		{up, strings.Repeat("\xcd", 50), "82558a389a443c0ea4cc819899f2083a85f0faa3e578f8077a2e3ff46729665b"},
		{strings.Repeat("\x0c", 20), "Test With Truncation", "a3b6167473100ee06e0c796c2955552b"},
		{strings.Repeat("\xaa", 131), "Test Using Larger Than Block-Size Key - Hash Key First", "60e431591ee0b67f0d8a26aacbf5b77f8e0bc6213728c5140546040f0ee37f54"},
		{strings.Repeat("\xaa", 131), "This is a test using a larger than block-size key and a larger than block-size data. The key needs to be hashed before being used by the HMAC algorithm.", "9b09ffa71b942fcb27635fbcd5b0e944bfdc63644f0713938a7f51535c3a35e2"},
	} {
		got := mac.Code(c.key, c.text)
		if !strings.HasPrefix(got, bytesOf(t, c.digits)) || len(got) != api.DigestBytes {
			t.Errorf("Code %d: %x, not %s", i, got, c.digits)
		}
	}
}

// 4.1, P6: keys and texts of all lengths around the ends of blocks, and long ones.
func TestCodeOfAllLengths(t *testing.T) {
	r := rand.New(rand.NewSource(1))
	for n := range 200 {
		for _, m := range []int{0, 1, 55, 56, 63, 64, 65, 119, 120, 300} {
			key, s := text(r, n), text(r, m)
			if mac.Code(key, s) != code(key, s) {
				t.Fatalf("Code of %d bytes under a key of %d is another one", m, n)
			}
		}
	}
	key, s := text(r, 1<<20), text(r, 1<<20+1)
	if mac.Code(key, s) != code(key, s) {
		t.Error("Code of long bytes under a long key is another one")
	}
}

// 4.1, 4.3: a text has one code, in whichever parts it comes.
func TestCodeOfParts(t *testing.T) {
	for _, parts := range [][]string{nil, {}, {""}, {"", "", ""}, {"abc"}, {"a", "", "bc"}, {"", "abc", ""}, {strings.Repeat("x", 64), strings.Repeat("y", 64)}, {strings.Repeat("x", 63), "yz", strings.Repeat("w", 200)}} {
		for _, key := range []string{"", "k", strings.Repeat("k", 64), strings.Repeat("k", 65)} {
			if mac.Code(key, parts...) != code(key, strings.Join(parts, "")) {
				t.Errorf("Code of %q is another one", parts)
			}
		}
	}
	s := text(rand.New(rand.NewSource(2)), 150)
	for i := range len(s) + 1 {
		if mac.Code("key", s[:i], s[i:]) != code("key", s) {
			t.Fatalf("cut at %d: another code", i)
		}
	}
	if mac.Code("k", "a", "b") == mac.Code("k", "b", "a") || mac.Code("ka", "b") == mac.Code("k", "ab") {
		t.Error("texts that are not the same have one code")
	}
}

// R3: Code leaves the parts and the list behind them as they are.
func TestCodeLeavesItsParts(t *testing.T) {
	all := []string{"a", "b", "c", "d"}
	mac.Code("k", all[1:3]...)
	if !slices.Equal(all, []string{"a", "b", "c", "d"}) {
		t.Errorf("Code changed its parts to %q", all)
	}
}

// 4.1: Check takes the one code of a text, and no other bytes.
func TestCheck(t *testing.T) {
	for _, key := range []string{"", "k", strings.Repeat("k", 64), strings.Repeat("k", 65)} {
		for _, s := range []string{"", "t", strings.Repeat("t", 100)} {
			c := code(key, s)
			if !mac.Check(key, s, c) {
				t.Errorf("Check(%q, %q): no", key, s)
			}
			for i := range len(c) {
				b := []byte(c)
				b[i] ^= 1 << (i % 8)
				if mac.Check(key, s, string(b)) || mac.Check(key, s, c[:i]) || mac.Check(key, s, c[i+1:]) {
					t.Errorf("Check(%q, %q) of a wrong code at %d: yes", key, s, i)
				}
			}
			for _, other := range []string{"", c + "\x00", "\x00" + c, c + c, hex.EncodeToString([]byte(c)), strings.Repeat("\x00", 32), digest.Sum(key + s), code(s+"x", key)} {
				if mac.Check(key, s, other) {
					t.Errorf("Check(%q, %q, %x): yes", key, s, other)
				}
			}
			if mac.Check(key+"x", s, c) || mac.Check(key, s+"x", c) || mac.Check("x"+key, s, c) {
				t.Errorf("a code of %q under %q is one of other bytes", s, key)
			}
		}
	}
}

// 4.1: Texts of keys around the length of a block: which ones, and that they are what is summed.
func TestTexts(t *testing.T) {
	r := rand.New(rand.NewSource(3))
	for _, n := range []int{0, 1, 32, 63, 64, 65, 66, 131, 1000} {
		for _, m := range []int{0, 1, 64, 200} {
			key, s := text(r, n), text(r, m)
			block := key
			var want []string
			if n > 64 {
				d := sha256.Sum256([]byte(key))
				block, want = string(d[:]), []string{key}
			}
			block += strings.Repeat("\x00", 64-len(block))
			inner := exclusiveOr(block, 54) + s
			sum := sha256.Sum256([]byte(inner))
			want = append(want, inner, exclusiveOr(block, 92)+string(sum[:]))
			got := mac.Texts(key, s)
			if !slices.Equal(got, want) {
				t.Fatalf("Texts of a key of %d bytes, a text of %d: %x, not %x", n, m, got, want)
			}
			if digest.Sum(got[len(got)-1]) != mac.Code(key, s) {
				t.Errorf("the last text of a key of %d bytes, a text of %d, has another digest than the code", n, m)
			}
		}
	}
}

func exclusiveOr(s string, by byte) string {
	b := []byte(s)
	for i := range b {
		b[i] ^= by
	}
	return string(b)
}

// R3: what Texts answers is a list of its own.
func TestTextsSharesNothing(t *testing.T) {
	l := mac.Texts("k", "t")
	want := slices.Clone(l)
	l[0], l[1] = "", ""
	if again := mac.Texts("k", "t"); !slices.Equal(again, want) {
		t.Error("Texts answers a list that it keeps")
	}
}

// known are the cases of RFC 5869 with SHA-256.
var known = []struct {
	salt, secret, label string
	prk, out            string
}{
	{
		"000102030405060708090a0b0c", "0b0b0b0b0b0b0b0b0b0b0b0b0b0b0b0b0b0b0b0b0b0b", "f0f1f2f3f4f5f6f7f8f9",
		"077709362c2e32df0ddc3f0dc47bba6390b6c73bb50f9c3122ec844ad7c2b3e5",
		"3cb25f25faacd57a90434f64d0362f2a2d2d0a90cf1a5a4c5db02d56ecc4c5bf34007208d5b887185865",
	},
	{
		"606162636465666768696a6b6c6d6e6f707172737475767778797a7b7c7d7e7f808182838485868788898a8b8c8d8e8f909192939495969798999a9b9c9d9e9fa0a1a2a3a4a5a6a7a8a9aaabacadaeaf",
		"000102030405060708090a0b0c0d0e0f101112131415161718191a1b1c1d1e1f202122232425262728292a2b2c2d2e2f303132333435363738393a3b3c3d3e3f404142434445464748494a4b4c4d4e4f",
		"b0b1b2b3b4b5b6b7b8b9babbbcbdbebfc0c1c2c3c4c5c6c7c8c9cacbcccdcecfd0d1d2d3d4d5d6d7d8d9dadbdcdddedfe0e1e2e3e4e5e6e7e8e9eaebecedeeeff0f1f2f3f4f5f6f7f8f9fafbfcfdfeff",
		"06a6b88c5853361a06104c9ceb35b45cef760014904671014a193f40c15fc244",
		"b11e398dc80327a1c8e7f78c596a49344f012eda2d4efad8a050cc4c19afa97c59045a99cac7827271cb41c65e590e09da3275600c2f09b8367793a9aca3db71cc30c58179ec3e87c14c01d5c1f3434f1d87",
	},
	{
		"", "0b0b0b0b0b0b0b0b0b0b0b0b0b0b0b0b0b0b0b0b0b0b", "",
		"19ef24a32c717b167f33a91d6f648bdf96596776afdb6377ac434c1c293ccb04",
		"8da4e775a563c18f715f802a063c5a31b8a11f5c5ee1879ec3454e5f3c738d2d9d201395faa4b61a96c8",
	},
}

// 4.2, P6: RFC 5869's cases.
func TestKnownKeysOfKeys(t *testing.T) {
	for i, c := range known {
		salt, secret, label, out := bytesOf(t, c.salt), bytesOf(t, c.secret), bytesOf(t, c.label), bytesOf(t, c.out)
		prk := mac.Extract(salt, secret)
		if prk != bytesOf(t, c.prk) {
			t.Errorf("Extract %d: %x", i, prk)
		}
		if s, e := mac.Expand(prk, label, len(out)); e != api.OK || s != out {
			t.Errorf("Expand %d: %x, %v", i, s, e)
		}
		if s, e := mac.Derive(secret, label, len(out)); c.salt == "" && (e != api.OK || s != out) {
			t.Errorf("Derive %d: %x, %v", i, s, e)
		}
	}
}

// 4.2: an empty salt is 32 bytes 0.
func TestExtract(t *testing.T) {
	r := rand.New(rand.NewSource(4))
	for n := range 140 {
		secret := text(r, r.Intn(100))
		salt := text(r, n)
		if mac.Extract(salt, secret) != code(salt, secret) {
			t.Errorf("Extract with a salt of %d bytes is another one", n)
		}
		if mac.Extract("", secret) != code(strings.Repeat("\x00", 32), secret) {
			t.Error("Extract without a salt is another one")
		}
	}
	if mac.Extract("a", "b") == mac.Extract("b", "a") {
		t.Error("Extract takes the salt for the secret")
	}
}

// expanded are the bytes of another maker.
func expanded(t *testing.T, secret, label string, n int) string {
	t.Helper()
	b, err := hkdf.Expand(sha256.New, []byte(secret), label, n)
	if err != nil {
		t.Fatal(err)
	}
	return string(b)
}

// 4.2, 4.3: Expand to all lengths, each a beginning of the longest; secrets and labels short, long, and empty.
func TestExpand(t *testing.T) {
	r := rand.New(rand.NewSource(5))
	for _, size := range []int{0, 1, 32, 64, 65, 1000} {
		secret, label := text(r, size), text(r, size)
		all := expanded(t, secret, label, mac.MaxExpand)
		for n := range 200 {
			if s, e := mac.Expand(secret, label, n); e != api.OK || s != all[:n] {
				t.Fatalf("Expand of %d bytes to %d: %x, %v", size, n, s, e)
			}
		}
		for _, n := range []int{4096, 8127, 8128, 8129, 8159, 8160} {
			if s, e := mac.Expand(secret, label, n); e != api.OK || s != all[:n] {
				t.Errorf("Expand of %d bytes to %d is another one, or %v", size, n, e)
			}
		}
	}
}

// 4.2: how many bytes may not be asked for.
func TestTooFewOrMany(t *testing.T) {
	if mac.MaxExpand != 8160 {
		t.Errorf("MaxExpand is %d", mac.MaxExpand)
	}
	for _, n := range []int{-1, -2, -32, -8160, math.MinInt, 8161, 8192, 1 << 32, 1<<32 + 1, math.MaxInt} {
		if s, e := mac.Expand("secret", "label", n); e != api.ErrArg || s != "" {
			t.Errorf("Expand to %d: %d bytes, %v", n, len(s), e)
		}
		if s, e := mac.Derive("secret", "label", n); e != api.ErrArg || s != "" {
			t.Errorf("Derive of %d: %d bytes, %v", n, len(s), e)
		}
	}
}

// 4.2: Derive extracts without a salt, and expands.
func TestDerive(t *testing.T) {
	r := rand.New(rand.NewSource(6))
	for _, n := range []int{0, 1, 31, 32, 33, 64, 8160} {
		for _, size := range []int{0, 1, 32, 64, 65, 300} {
			secret, label := text(r, size), text(r, size)
			want, err := hkdf.Key(sha256.New, []byte(secret), nil, label, n)
			if err != nil {
				t.Fatal(err)
			}
			if s, e := mac.Derive(secret, label, n); e != api.OK || s != string(want) {
				t.Errorf("Derive of %d bytes from %d is another one, or %v", n, size, e)
			}
		}
	}
}

// 4.2: Key writes the byte 0 and the number, all 64 bits of it, behind the label.
func TestKey(t *testing.T) {
	for _, number := range []int{0, 1, 2, 255, 256, 258, 1 << 31, 1 << 32, 0x0102030405060708, math.MaxInt, math.MinInt, -1, -2, -256} {
		for _, label := range []string{"", "label", "label\x00", strings.Repeat("l", 100)} {
			for _, secret := range []string{"", "secret", strings.Repeat("s", 100)} {
				info := string(binary.BigEndian.AppendUint64([]byte(label+"\x00"), uint64(number)))
				want, err := hkdf.Key(sha256.New, []byte(secret), nil, info, 32)
				if err != nil {
					t.Fatal(err)
				}
				if got := mac.Key(secret, label, number); got != string(want) {
					t.Errorf("Key(%q, %q, %d): %x, not %x", secret, label, number, got, want)
				}
			}
		}
	}
}

// 4.3: bytes 0 behind a key do not count up to 64 bytes, and beyond them do.
func TestZerosBehindKeys(t *testing.T) {
	r := rand.New(rand.NewSource(7))
	for n := range 65 {
		key := text(r, n)
		for more := range 64 - n + 1 {
			if mac.Code(key+strings.Repeat("\x00", more), "text") != mac.Code(key, "text") {
				t.Fatalf("a key of %d bytes, and %d bytes 0 behind it: another code", n, more)
			}
		}
		if mac.Code(key+strings.Repeat("\x00", 65-n), "text") == mac.Code(key, "text") {
			t.Fatalf("a key of %d bytes and bytes 0 up to 65: the same code", n)
		}
	}
	long := text(r, 65)
	if mac.Code(long+"\x00", "text") == mac.Code(long, "text") || mac.Code(digest.Sum(long), "text") != mac.Code(long, "text") {
		t.Error("a key of more than 64 bytes does not stand for its digest")
	}
}
