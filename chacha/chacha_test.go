package chacha_test

import (
	"crypto/sha256"
	"encoding/binary"
	"encoding/hex"
	"math"
	"math/rand"
	"strings"
	"testing"

	"lockbox/api"
	"lockbox/chacha"
)

const last = math.MaxUint32 // the last counter

func text(r *rand.Rand, n int) string {
	b := make([]byte, n)
	r.Read(b)
	return string(b)
}

func bytesOf(t *testing.T, digits string) string {
	t.Helper()
	b, err := hex.DecodeString(digits)
	if err != nil {
		t.Fatal(err)
	}
	return string(b)
}

func zeros(n int) string { return strings.Repeat("\x00", n) }
func full(n int) string  { return strings.Repeat("\xff", n) }

// rising are so many bytes: 0, 1, and so on.
func rising(n int) string {
	var b strings.Builder
	for i := range n {
		b.WriteByte(byte(i))
	}
	return b.String()
}

// turnQuarter is a quarter turn as the document's words say, within a field.
func turnQuarter(f []uint32, a, b, c, d int) {
	left := func(x uint32, n int) uint32 { return x<<n | x>>(32-n) }
	f[a] += f[b]
	f[d] = left(f[d]^f[a], 16)
	f[c] += f[d]
	f[b] = left(f[b]^f[c], 12)
	f[a] += f[b]
	f[d] = left(f[d]^f[a], 8)
	f[c] += f[d]
	f[b] = left(f[b]^f[c], 7)
}

// block is a block as the document's words say: columns, then what stands askew.
func block(key, nonce string, counter uint32) string {
	var field, turned []uint32
	for _, part := range []string{"expand 32-byte k", key, string(binary.LittleEndian.AppendUint32(nil, counter)), nonce} {
		for ; part != ""; part = part[4:] {
			field = append(field, binary.LittleEndian.Uint32([]byte(part)))
		}
	}
	turned = append(turned, field...)
	for range 10 {
		for i := range 4 {
			turnQuarter(turned, i, 4+i, 8+i, 12+i)
		}
		for i := range 4 {
			turnQuarter(turned, i, 4+(i+1)%4, 8+(i+2)%4, 12+(i+3)%4)
		}
	}
	var out []byte
	for i := range field {
		out = binary.LittleEndian.AppendUint32(out, field[i]+turned[i])
	}
	return string(out)
}

// stream is a stream's first bytes, put together of blocks.
func stream(key, nonce string, counter, n int) string {
	var b strings.Builder
	for ; b.Len() < n; counter++ {
		b.WriteString(block(key, nonce, uint32(counter)))
	}
	return b.String()[:n]
}

func exclusiveOr(a, b string) string {
	out := []byte(a)
	for i := range out {
		out[i] ^= b[i]
	}
	return string(out)
}

// 5.1, P6: the quarter turn of the document's example, one that RFC 8439 tells within a field, and words of which nothing or all is set.
func TestQuarterOfKnownWords(t *testing.T) {
	for _, c := range []struct{ in, out [4]uint32 }{
		{[4]uint32{0x11111111, 0x01020304, 0x9b8d6f43, 0x01234567}, [4]uint32{0xea2a92f4, 0xcb1cf8ce, 0x4581472e, 0x5881c4bb}},
		{[4]uint32{0x516461b1, 0x2a5f714c, 0x53372767, 0x3d631689}, [4]uint32{0xbdb886dc, 0xcfacafd2, 0xe46bea80, 0xccc07c79}},
		{[4]uint32{}, [4]uint32{}},
		{[4]uint32{1, 0, 0, 0}, [4]uint32{0x10000001, 0x80808808, 0x01010110, 0x01000110}},
	} {
		if got := chacha.Quarter(c.in[0], c.in[1], c.in[2], c.in[3]); got != c.out {
			t.Errorf("Quarter of %08x: %08x, not %08x", c.in, got, c.out)
		}
	}
}

// 5.1: quarter turns of any words, each bit of each word among them.
func TestQuarterOfAnyWords(t *testing.T) {
	r := rand.New(rand.NewSource(1))
	check := func(w [4]uint32) {
		t.Helper()
		got := chacha.Quarter(w[0], w[1], w[2], w[3])
		want := w
		turnQuarter(want[:], 0, 1, 2, 3)
		if got != want {
			t.Fatalf("Quarter of %08x: %08x, not %08x", w, got, want)
		}
	}
	for i := range 128 {
		var one, other [4]uint32
		one[i/32] = 1 << (i % 32)
		for j := range other {
			other[j] = ^one[j]
		}
		check(one)
		check(other)
	}
	check([4]uint32{last, last, last, last})
	for range 2000 {
		check([4]uint32{r.Uint32(), r.Uint32(), r.Uint32(), r.Uint32()})
	}
}

// known are blocks of RFC 8439 (its appendix A.1, and 2.3.2), and others behind them that another maker told.
var known = []struct {
	key, nonce string
	counter    int
	block      string
}{
	{zeros(32), zeros(12), 0, "76b8e0ada0f13d90405d6ae55386bd28bdd219b8a08ded1aa836efcc8b770dc7da41597c5157488d7724e03fb8d84a376a43b8f41518a11cc387b669b2ee6586"},
	{zeros(32), zeros(12), 1, "9f07e7be5551387a98ba977c732d080dcb0f29a048e3656912c6533e32ee7aed29b721769ce64e43d57133b074d839d531ed1f28510afb45ace10a1f4b794d6f"},
	{zeros(31) + "\x01", zeros(12), 1, "3aeb5224ecf849929b9d828db1ced4dd832025e8018b8160b82284f3c949aa5a8eca00bbb4a73bdad192b5c42f73f2fd4e273644c8b36125a64addeb006c13a0"},
	{"\x00\xff" + zeros(30), zeros(12), 2, "72d54dfbf12ec44b362692df94137f328fea8da73990265ec1bbbea1ae9af0ca13b25aa26cb4a648cb9b9d1be65b2c0924a66c54d545ec1b7374f4872e99f096"},
	{zeros(32), zeros(11) + "\x02", 0, "c2c64d378cd536374ae204b9ef933fcd1a8b2288b3dfa49672ab765b54ee27c78a970e0e955c14f3a88e741b97c286f75f8fc299e8148362fa198a39531bed6d"},
	{rising(32), "\x00\x00\x00\x09\x00\x00\x00\x4a\x00\x00\x00\x00", 1, "10f1e7e4d13b5915500fdd1fa32071c4c7d1f4c733c068030422aa9ac3d46c4ed2826446079faa0914c2d705d98b02a2b5129cd1de164eb9cbd083e8a2503c4e"},
	{full(32), full(12), last, "d72b21cfa4b6b0c41d61f62b8a11159c6a4f63bc56c2035796c7ad37811121bbec56d54a530f3a933dd28a50feb23bfaf64f405be985f3718bdf4683e96be749"},
	{rising(32), full(12), 1 << 31, "2ce768bcef0aa32230f0b3d6a1a46a59a9802436a41a52972c64037bafcce4861b182159dab658403219bb82f862a17adc000cf33ae1a84c18266141a5ae8d5d"},
}

// 5.1, P6: blocks that the standard tells.
func TestKnownBlocks(t *testing.T) {
	for i, c := range known {
		if got, e := chacha.Block(c.key, c.nonce, c.counter); e != api.OK || got != bytesOf(t, c.block) {
			t.Errorf("Block %d: %x, %v", i, got, e)
		}
		if got, e := chacha.Stream(c.key, c.nonce, c.counter, 64); e != api.OK || got != bytesOf(t, c.block) {
			t.Errorf("Stream %d: %x, %v", i, got, e)
		}
	}
}

// 5.1: blocks of any keys, nonces and counters.
func TestBlock(t *testing.T) {
	r := rand.New(rand.NewSource(2))
	counters := []int{0, 1, 255, 256, 1<<31 - 1, 1 << 31, last - 1, last}
	for range 200 {
		counters = append(counters, int(r.Uint32()))
	}
	for _, counter := range counters {
		key, nonce := text(r, 32), text(r, 12)
		if got, e := chacha.Block(key, nonce, counter); e != api.OK || got != block(key, nonce, uint32(counter)) {
			t.Errorf("Block(%x, %x, %d): %x, %v", key, nonce, counter, got, e)
		}
	}
}

// 5.1, 5.2: keys, nonces and counters that may not be; a key or a nonce is told ahead of all else.
func TestWrongArguments(t *testing.T) {
	key, nonce := rising(32), rising(12)
	for _, c := range []struct {
		key, nonce string
		counter    int
		e          api.Errno
	}{
		{"", nonce, 0, api.ErrKey}, {key[1:], nonce, 0, api.ErrKey}, {key + "x", nonce, 0, api.ErrKey}, {key + key, nonce, 0, api.ErrKey}, {key[:16], nonce, 0, api.ErrKey},
		{key, "", 0, api.ErrKey}, {key, nonce[1:], 0, api.ErrKey}, {key, nonce + "x", 0, api.ErrKey}, {key, nonce[:8], 0, api.ErrKey},
		{nonce, key, 0, api.ErrKey}, {key[:22], nonce + nonce[:10], 0, api.ErrKey},
		{key[1:], nonce, -1, api.ErrKey}, {key, nonce[1:], last + 1, api.ErrKey},
		{key, nonce, -1, api.ErrArg}, {key, nonce, last + 1, api.ErrArg}, {key, nonce, 1 << 33, api.ErrArg},
		{key, nonce, math.MinInt, api.ErrArg}, {key, nonce, math.MinInt + 1, api.ErrArg}, {key, nonce, math.MaxInt, api.ErrArg}, {key, nonce, math.MinInt32, api.ErrArg},
	} {
		if s, e := chacha.Block(c.key, c.nonce, c.counter); e != c.e || s != "" {
			t.Errorf("Block(%x, %x, %d): %x, %v, not %v", c.key, c.nonce, c.counter, s, e, c.e)
		}
		for _, n := range []int{0, 1, 64, api.MaxText, api.MaxText + 1, -1, math.MinInt, math.MaxInt} {
			if s, e := chacha.Stream(c.key, c.nonce, c.counter, n); e != c.e || s != "" {
				t.Errorf("Stream(%x, %x, %d, %d): %x, %v, not %v", c.key, c.nonce, c.counter, n, s, e, c.e)
			}
		}
		for _, n := range []int{0, 1, 64, api.MaxText, api.MaxText + 1} {
			if s, e := chacha.Turn(c.key, c.nonce, c.counter, zeros(n)); e != c.e || s != "" {
				t.Errorf("Turn(%x, %x, %d) of %d bytes: %x, %v, not %v", c.key, c.nonce, c.counter, n, s, e, c.e)
			}
		}
	}
}

// 5.2: how many bytes of a stream may be asked for, from any counter on.
func TestWrongLengths(t *testing.T) {
	key, nonce := rising(32), rising(12)
	for _, c := range []struct {
		counter, n int
		e          api.Errno
	}{
		{0, -1, api.ErrArg}, {0, math.MinInt, api.ErrArg}, {last, -1, api.ErrArg}, {last, math.MinInt, api.ErrArg},
		{0, api.MaxText + 1, api.ErrLong}, {0, math.MaxInt, api.ErrLong}, {last, math.MaxInt, api.ErrLong}, {0, 1 << 38, api.ErrLong},
		{last, 65, api.ErrLong}, {last, api.MaxText, api.ErrLong}, {last - 1, 129, api.ErrLong}, {last - 1022, api.MaxText - 63, api.ErrLong}, {last - 1022, api.MaxText, api.ErrLong},
		{0, 0, api.OK}, {0, api.MaxText, api.OK}, {0, api.MaxText - 1, api.OK},
		{last, 0, api.OK}, {last, 1, api.OK}, {last, 63, api.OK}, {last, 64, api.OK}, {last - 1, 65, api.OK}, {last - 1, 128, api.OK},
		{last - 1022, api.MaxText - 64, api.OK}, {last - 1023, api.MaxText, api.OK},
	} {
		s, e := chacha.Stream(key, nonce, c.counter, c.n)
		want := ""
		if c.e == api.OK {
			want = stream(key, nonce, c.counter, c.n)
		}
		if e != c.e || s != want {
			t.Errorf("Stream from %d on of %d bytes: %d bytes, %v, not %v", c.counter, c.n, len(s), e, c.e)
		}
		if c.n < 0 || c.n > 2*api.MaxText {
			continue
		}
		if s, e := chacha.Turn(key, nonce, c.counter, zeros(c.n)); e != c.e || s != want {
			t.Errorf("Turn from %d on of %d bytes: %d bytes, %v, not %v", c.counter, c.n, len(s), e, c.e)
		}
	}
}

// 5.2: streams of all lengths around the ends of blocks.
func TestStream(t *testing.T) {
	r := rand.New(rand.NewSource(3))
	for n := range 400 {
		key, nonce, counter := text(r, 32), text(r, 12), int(r.Uint32()>>1)
		if got, e := chacha.Stream(key, nonce, counter, n); e != api.OK || got != stream(key, nonce, counter, n) {
			t.Fatalf("Stream(%x, %x, %d, %d): %x, %v", key, nonce, counter, n, got, e)
		}
	}
}

// 5.2, P6: the longest streams, of which another maker told the digests; the second one ends with the counters.
func TestLongStreams(t *testing.T) {
	for _, c := range []struct {
		counter int
		digest  string
	}{
		{7, "c0c0fae0e802fab8baf0ae57e92336485bed644cae7bf992a4a553be485603f0"},
		{last - 1023, "9d1877bbb58c2da394ef3c2687193ba8c35cd9660a3ab681f601b89914457ee5"},
	} {
		s, e := chacha.Stream(rising(32), rising(12), c.counter, api.MaxText)
		if sum := sha256.Sum256([]byte(s)); e != api.OK || len(s) != api.MaxText || string(sum[:]) != bytesOf(t, c.digest) {
			t.Errorf("Stream from %d on: %d bytes, %x, %v", c.counter, len(s), sum, e)
		}
	}
}

// 5.2, P6: texts that RFC 8439 turns (2.4.2, and the third of its appendix A.2).
func TestTurnOfKnownTexts(t *testing.T) {
	for i, c := range []struct {
		key, nonce string
		counter    int
		text, out  string
	}{
		{
			rising(32), zeros(7) + "\x4a" + zeros(4), 1,
			"Ladies and Gentlemen of the class of '99: If I could offer you only one tip for the future, sunscreen would be it.",
			"6e2e359a2568f98041ba0728dd0d6981e97e7aec1d4360c20a27afccfd9fae0bf91b65c5524733ab8f593dabcd62b3571639d624e65152ab8f530c359f0861d807ca0dbf500d6a6156a38e088a22b65e52bc514d16ccf806818ce91ab77937365af90bbf74a35be6b40b8eedf2785e42874d",
		},
		{
			bytesOf(t, "1c9240a5eb55d38af333888604f6b5f0473917c1402b80099dca5cbc207075c0"), zeros(11) + "\x02", 42,
			"'Twas brillig, and the slithy toves\nDid gyre and gimble in the wabe:\nAll mimsy were the borogoves,\nAnd the mome raths outgrabe.",
			"62e6347f95ed87a45ffae7426f27a1df5fb69110044c0d73118effa95b01e5cf166d3df2d721caf9b21e5fb14c616871fd84c54f9d65b283196c7fe4f60553ebf39c6402c42234e32a356b3e764312a61a5532055716ead6962568f87d3f3f7704c6a8d1bcd1bf4d50d6154b6da731b187b58dfd728afa36757a797ac188d1",
		},
	} {
		if got, e := chacha.Turn(c.key, c.nonce, c.counter, c.text); e != api.OK || got != bytesOf(t, c.out) {
			t.Errorf("Turn %d: %x, %v", i, got, e)
		}
		if got, e := chacha.Turn(c.key, c.nonce, c.counter, bytesOf(t, c.out)); e != api.OK || got != c.text {
			t.Errorf("Turn %d twice: %q, %v", i, got, e)
		}
	}
}

// 5.2, 5.3: texts of any bytes and lengths are held against the stream, and turned twice they are as they were.
func TestTurn(t *testing.T) {
	r := rand.New(rand.NewSource(4))
	for n := range 300 {
		key, nonce, counter := text(r, 32), text(r, 12), int(r.Uint32()>>1)
		for _, s := range []string{text(r, n), zeros(n), full(n)} {
			turned, e := chacha.Turn(key, nonce, counter, s)
			if e != api.OK || turned != exclusiveOr(s, stream(key, nonce, counter, n)) {
				t.Fatalf("Turn(%x, %x, %d, %x): %x, %v", key, nonce, counter, s, turned, e)
			}
			if back, e := chacha.Turn(key, nonce, counter, turned); e != api.OK || back != s {
				t.Fatalf("Turn(%x, %x, %d) twice of %x: %x, %v", key, nonce, counter, s, back, e)
			}
		}
	}
}

// 5.3: a text may be turned in parts of whole blocks, up to the last counter.
func TestTurnInParts(t *testing.T) {
	r := rand.New(rand.NewSource(5))
	key, nonce := text(r, 32), text(r, 12)
	for _, first := range []int{0, 1, 1<<31 - 2, last - 6} {
		s := text(r, 6*64+17)
		whole, e := chacha.Turn(key, nonce, first, s)
		if e != api.OK {
			t.Fatalf("Turn from %d on: %v", first, e)
		}
		for blocks := range 7 {
			a, e := chacha.Turn(key, nonce, first, s[:64*blocks])
			b, f := chacha.Turn(key, nonce, first+blocks, s[64*blocks:])
			if e != api.OK || f != api.OK || a+b != whole {
				t.Errorf("from %d on, cut behind %d blocks: another text, %v, %v", first, blocks, e, f)
			}
		}
	}
}
