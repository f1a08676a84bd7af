package seal_test

import (
	"crypto/hkdf"
	"crypto/hmac"
	"crypto/sha256"
	"encoding/binary"
	"encoding/hex"
	"math"
	"math/rand"
	"strings"
	"testing"

	"lockbox/api"
	"lockbox/canon"
	"lockbox/chacha"
	"lockbox/seal"
)

// key is the bytes 0 to 31.
var key = counted(32)

// counted is the first n bytes of 0 to 250, over and over.
func counted(n int) string {
	b := make([]byte, n)
	for i := range b {
		b[i] = byte(i % 251)
	}
	return string(b)
}

func random(r *rand.Rand, n int) string {
	b := make([]byte, n)
	r.Read(b)
	return string(b)
}

// numbers are some that may be, at all edges of their bytes.
func numbers() []int {
	l := []int{0, 1, 7}
	for i := 8; i <= 56; i += 8 {
		l = append(l, 1<<i-1)
		if i < 56 {
			l = append(l, 1<<i, 1<<i+1)
		}
	}
	return l
}

func noNumbers() []int { return []int{-1, 1 << 56, 1<<56 + 1, math.MinInt, math.MaxInt} }

func noKeys() []string { return []string{"", "k", key[1:], key + "k", key + "\x00", key + key} }

// num, text and list are items as the words of layer 2 write them.
func num(n int) string {
	s := ""
	for ; n > 0; n /= 256 {
		s = string([]byte{byte(n)}) + s
	}
	return string([]byte{byte(len(s))}) + s
}

func text(s string) string { return "\x08" + num(len(s)) + s }

func list(l ...string) string { return "\x09" + num(len(l)) + strings.Join(l, "") }

// eight is a number in eight bytes, the highest first.
func eight(n int) string { return string(binary.BigEndian.AppendUint64(nil, uint64(n))) }

// keyOf is a key of a key, of another maker.
func keyOf(key, label string, number int) string {
	b, err := hkdf.Key(sha256.New, []byte(key), nil, label+"\x00"+eight(number), 32)
	if err != nil {
		panic(err)
	}
	return string(b)
}

// codeOf is a code of another maker.
func codeOf(key, text string) string {
	m := hmac.New(sha256.New, []byte(key))
	m.Write([]byte(text))
	return string(m.Sum(nil))
}

// told is a turned text with its code, as the document's words say.
func told(key string, number int, turned string) string {
	code := codeOf(keyOf(key, "tell", number), list(num(number), text(turned)))
	return list(num(number), text(turned), text(code))
}

// sealed is a sealed text as the document's words say.
func sealed(key string, number int, plain string) string {
	turned, _ := chacha.Turn(keyOf(key, "hide", number), "\x00\x00\x00\x00"+eight(number), 1, plain)
	return told(key, number, turned)
}

// 16.1: texts that another maker sealed, each part by itself (of the last one the digest).
func TestKnownTexts(t *testing.T) {
	for _, c := range []struct {
		number      int
		plain, want string
	}{
		{0, "", "09010300080008012055781223c165cb54cb7c416e43de00ff95389c4e495fe4c2e733d578630e805d"},
		{0, "hello", "0901030008010568f588b9b90801206c09f3dff4d7498f026f5f0e3832b41c066c729eaf50fe8008750f50ec62dd93"},
		{258, "hello", "0901030201020801055fd16dc7e8080120723c996611491f8c3a19f34466c981fab020c920d4c2fecb86f53b4d7656c91a"},
		{api.MaxNum, "The cat, the CAT-2!", "09010307ffffffffffffff080113285e161b773b23af58f9e78eb774caa22d398c0801208887cbb07555300ea2a54a17e2ef42715c6e467c06c32812c30cb71babda9810"},
		{7, counted(100), "090103010708016431ab0b27855c92d9e12a489fefdcc6d73f30f05e5851a921a889868ef3c0474cdef052c16d21f566f0d3efc2dbc9424a70ed1a31f4c6b7092136496645b06d2d3682b9eca9b8ff0316087634d02b2d8c09cc20d1e9ca03e1d67850bd0b1a17bb01c8bec00801204751ed0f5239aba52bc3c13704284922366a8a745b32b0ff910e2afb92ec95f7"},
	} {
		s, e := seal.Seal(key, c.number, c.plain)
		if hex.EncodeToString([]byte(s)) != c.want || e != api.OK {
			t.Errorf("Seal of %q, %d: %x, %v", c.plain, c.number, s, e)
		}
	}
	s, _ := seal.Seal(key, 4095, counted(1024))
	if sum := sha256.Sum256([]byte(s)); len(s) != 1069 || hex.EncodeToString(sum[:]) != "6bc3818d203ed5ed6ca9137f527689b4b9253f12ed943c2b3ac805ff0fc07c70" {
		t.Errorf("Seal of 1024 bytes: %d bytes, of the digest %x", len(s), sum)
	}
}

// 16.1, 16.3: of all edges of numbers and lengths: what is sealed, that it is opened, and its number.
func TestSeal(t *testing.T) {
	for _, k := range []string{key, strings.Repeat("\x00", 32), strings.Repeat("\xff", 32)} {
		for _, number := range numbers() {
			for _, n := range []int{0, 1, 2, 63, 64, 65, 127, 128, 255, 256, 257, 1023, 1024} {
				plain := counted(n)
				s, e := seal.Seal(k, number, plain)
				if s != sealed(k, number, plain) || e != api.OK {
					t.Fatalf("Seal of %d bytes, %d: %x, %v", n, number, s, e)
				}
				if p, e := seal.Open(k, number, s); p != plain || e != api.OK {
					t.Fatalf("Open of %d bytes, %d: %q, %v", n, number, p, e)
				}
				if m, e := seal.Number(s); m != number || e != api.OK {
					t.Fatalf("Number of %d: %d, %v", number, m, e)
				}
			}
		}
	}
}

// 16.1: no key ahead of no number, and that ahead of a text that is too long.
func TestSealOfWrong(t *testing.T) {
	long := counted(1025)
	ask := func(k string, number int, plain string, want api.Errno) {
		if s, e := seal.Seal(k, number, plain); s != "" || e != want {
			t.Errorf("Seal of %d bytes, %d, by a key of %d bytes: %x, %v", len(plain), number, len(k), s, e)
		}
	}
	for _, plain := range []string{"", "a", long, counted(1 << 20)} {
		for _, number := range append(numbers(), noNumbers()...) {
			for _, k := range noKeys() {
				ask(k, number, plain, api.ErrKey)
			}
		}
		for _, number := range noNumbers() {
			ask(key, number, plain, api.ErrArg)
		}
	}
	for _, number := range numbers() {
		ask(key, number, long, api.ErrLong)
		ask(key, number, counted(1<<20), api.ErrLong)
	}
}

// 16.1: no key ahead of no number, that ahead of no form, and that ahead of another code.
func TestOpenOfWrong(t *testing.T) {
	s := sealed(key, 258, "hello")
	b := []byte(s)
	b[len(b)-1] ^= 1
	ask := func(k string, number int, s string, want api.Errno) {
		t.Helper()
		if p, e := seal.Open(k, number, s); p != "" || e != want {
			t.Errorf("Open of %.60x, %d, by a key of %d bytes: %q, %v", s, number, len(k), p, e)
		}
	}
	for _, x := range []string{s, string(b), "", "x", s + "x"} {
		for _, k := range noKeys() {
			for _, number := range append(noNumbers(), 258, 0) {
				ask(k, number, x, api.ErrKey)
			}
		}
		for _, number := range noNumbers() {
			ask(key, number, x, api.ErrArg)
		}
		for _, number := range []int{0, 1, 2, 257, 259, 513, api.MaxNum} {
			ask(key, number, x, api.ErrForm)
		}
	}
	ask(key, 258, string(b), api.ErrSum)
	for i := range 32 {
		another := []byte(key)
		another[i] ^= 0x80
		ask(string(another), 258, s, api.ErrSum)
	}
	for _, other := range []string{keyOf(key, "tell", 258), keyOf(key, "hide", 258)} {
		ask(other, 258, s, api.ErrSum)
	}
	// What was sealed as another number, or of another text, is told by the code, whatever it says of itself.
	mine := s[len(s)-32:]
	for _, x := range []string{list(num(7), text("hello"), text(mine)), list(num(7), text(s[9:14]), text(mine)), list(num(7), text(""), text(mine))} {
		ask(key, 7, x, api.ErrSum)
	}
	for _, x := range []string{list(num(258), text(""), text(mine)), list(num(258), text(counted(1024)), text(mine)), list(num(258), text(s[9:14]+"\x00"), text(mine)), list(num(258), text(s[9:13]), text(mine))} {
		ask(key, 258, x, api.ErrSum)
	}
	// The code is that of the list, not of the text alone, and is under the key of telling.
	summed := list(num(258), text(s[9:14]))
	for _, code := range []string{codeOf(keyOf(key, "tell", 258), s[9:14]), codeOf(keyOf(key, "hide", 258), summed), codeOf(key, summed), codeOf(keyOf(key, "tell", 257), summed), strings.Repeat("\x00", 32)} {
		ask(key, 258, list(num(258), text(s[9:14]), text(code)), api.ErrSum)
	}
}

// 16.1, P7: any bit that is another one makes it another number, no sealed text, or one of another code.
func TestOpenOfTurnedBits(t *testing.T) {
	s := sealed(key, 258, "hello")
	for i := range len(s) {
		for bit := range 8 {
			b := []byte(s)
			b[i] ^= 1 << bit
			want := api.ErrSum
			if i < 9 || i >= 14 && i < 17 {
				want = api.ErrForm // the number, and what says how long things are
			}
			if p, e := seal.Open(key, 258, string(b)); p != "" || e != want {
				t.Errorf("the bit %d of the byte %d: %q, %v", bit, i, p, e)
			}
		}
	}
}

// shapeless are bytes that have not the form of a sealed text, though all that they can have right is right.
func shapeless() []string {
	s := sealed(key, 258, "hello")
	turned, code := s[9:14], s[17:]
	l := []string{
		"", "\x00", "x", "hello", s + "\x00", s + "x", s + s, "\x00" + s, list(), list(s), num(258), text(s), list(num(258)), list(num(258), text(turned)), list(text(turned), text(code)),
		list(num(258), text(turned), text(code), num(0)), list(num(258), text(turned), text(code), text("")), list(num(258), text(turned), text(code), list()), list(num(258), num(258), text(turned), text(code)),
		list(text(turned), num(258), text(code)), list(num(258), text(code), text(turned)), list(text(turned), text(code), num(258)), list(text("\x01\x02"), text(turned), text(code)),
		list(num(258), num(5), text(code)), list(num(258), list(), text(code)), list(num(258), list(text(turned)), text(code)), list(num(258), text(turned), num(5)), list(num(258), text(turned), list(text(code))), list(list(num(258)), text(turned), text(code)),
		list(num(258), text(turned), text("")), list(num(258), text(turned), text(code[1:])), list(num(258), text(turned), text(code+"\x00")), list(num(258), text(turned), text(code+code)),
		"\x09\x01\x03\x03\x00\x01\x02" + text(turned) + text(code), "\x09\x02\x00\x03" + s[3:], list(num(258), "\x08\x02\x00\x05"+turned, text(code)), list(num(258), text(turned), "\x08\x02\x00\x20"+code), "\x09\x01\x03\x08\x01\x00\x00\x00\x00\x00\x00\x00" + text(turned) + text(code), // other ways to write it
		told(key, 258, counted(1025)), told(key, 258, counted(1026)), told(key, 258, counted(60000)), // what is too long to have been sealed
		told(key, 258, counted(65480)), told(key, 258, counted(70000)), counted(70000),
	}
	for i := range len(s) {
		l = append(l, s[:i], s[i+1:])
	}
	return l
}

// 16.1, P7: what has not the form of a sealed text is neither opened, nor has it a number.
func TestShapeless(t *testing.T) {
	for _, s := range shapeless() {
		if n, e := seal.Number(s); n != 0 || e != api.ErrForm {
			t.Errorf("Number of %d bytes, %.60x: %d, %v", len(s), s, n, e)
		}
		for _, number := range []int{258, 0, 1} {
			if p, e := seal.Open(key, number, s); p != "" || e != api.ErrForm {
				t.Errorf("Open of %d bytes, %.60x: %q, %v", len(s), s, p, e)
			}
		}
	}
}

// 16.1: Number asks for the form alone.
func TestNumberOfAnyCode(t *testing.T) {
	for _, number := range numbers() {
		for _, s := range []string{"", "a", counted(1024)} {
			if n, e := seal.Number(list(num(number), text(s), text(key))); n != number || e != api.OK {
				t.Errorf("Number of %d: %d, %v", number, n, e)
			}
		}
	}
}

// 16.2: how long sealed texts are.
func TestLong(t *testing.T) {
	for n := range 1025 {
		plain := counted(n)
		if s, _ := seal.Seal(key, 0, plain); seal.Long(plain) != len(s) || len(s) != len(sealed(key, 0, plain)) {
			t.Errorf("Long of %d bytes: %d", n, seal.Long(plain))
		}
	}
	for n, want := range map[int]int{0: 41, 1: 43, 255: 297, 256: 299, 1024: 1067, 1025: 0, 1026: 0, 65536: 0, 1 << 20: 0} {
		if got := seal.Long(counted(n)); got != want {
			t.Errorf("Long of %d bytes: %d, not %d", n, got, want)
		}
	}
}

// 16.3: what is sealed is opened by its own key and number alone; what can be opened, sealed again, is what it was.
func TestRoundTrip(t *testing.T) {
	r := rand.New(rand.NewSource(1))
	for range 2000 {
		k, number, plain := random(r, 32), r.Intn(api.MaxNum+1)>>r.Intn(57), random(r, r.Intn(1025))
		s, e := seal.Seal(k, number, plain)
		if e != api.OK {
			t.Fatalf("Seal: %v", e)
		}
		if p, e := seal.Open(k, number, s); p != plain || e != api.OK {
			t.Fatalf("Open: %v", e)
		}
		if again, _ := seal.Seal(k, number, plain); again != s {
			t.Fatal("what is sealed twice is unlike")
		}
		if p, e := seal.Open(random(r, 32), number, s); p != "" || e != api.ErrSum {
			t.Fatalf("Open by another key: %v", e)
		}
		// Whoever has the keys of a key may make texts of his own: these, too, are what is sealed.
		turned := random(r, 1020+r.Intn(8))
		s = told(k, number, turned)
		p, e := seal.Open(k, number, s)
		if again, _ := seal.Seal(k, number, p); e == api.OK && again != s || e == api.OK && len(turned) > 1024 || e != api.OK && (e != api.ErrForm || len(turned) <= 1024) {
			t.Fatalf("Open of %d bytes: %v", len(turned), e)
		}
	}
}

// P7: of any bytes there is an answer, and what has a number is written as it stood there.
func TestAnyBytes(t *testing.T) {
	r := rand.New(rand.NewSource(2))
	s, read := sealed(key, 258, "hello"), 0
	for range 30000 {
		b := []byte(s)
		for range 1 + r.Intn(3) {
			b[r.Intn(len(b))] = byte(r.Intn(256))
		}
		n, e := seal.Number(string(b))
		if e == api.OK {
			x, _ := canon.Decode(string(b))
			if read++; list(num(n), text(x.L[1].S), text(x.L[2].S)) != string(b) {
				t.Fatalf("%x has another form", b)
			}
		}
		if p, o := seal.Open(key, 258, string(b)); string(b) != s && (p != "" || o == api.OK) || (o == api.ErrForm) != (e != api.OK || n != 258) {
			t.Fatalf("Open of %x: %q, %v; its number: %d, %v", b, p, o, n, e)
		}
	}
	if read == 0 {
		t.Error("nothing was read")
	}
}
