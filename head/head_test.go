package head_test

import (
	"crypto/hmac"
	"crypto/sha256"
	"math"
	"math/rand"
	"strings"
	"testing"
	"unsafe"

	"lockbox/api"
	"lockbox/canon"
	"lockbox/head"
)

var (
	key  = strings.Repeat("k", 32)
	root = strings.Repeat("r", 32)
	code = strings.Repeat("c", 32)
)

// num and text are items as the words of layer 2 write them.
func num(n int) string {
	s := ""
	for ; n > 0; n /= 256 {
		s = string([]byte{byte(n)}) + s
	}
	return string([]byte{byte(len(s))}) + s
}

func text(s string) string { return "\x08" + num(len(s)) + s }

// signed is what is signed as the document's words say.
func signed(h api.Head) string {
	return "\x09" + num(4) + text("head") + num(h.Size) + text(h.Root) + num(h.Time)
}

// bytesOf is a head's bytes as the document's words say.
func bytesOf(h api.Head) string {
	return "\x09" + num(4) + num(h.Size) + text(h.Root) + num(h.Time) + text(h.Code)
}

// codeOf is the code of another maker.
func codeOf(key, text string) string {
	m := hmac.New(sha256.New, []byte(key))
	m.Write([]byte(text))
	return string(m.Sum(nil))
}

// heads are some that may be, at all edges.
func heads() []api.Head {
	var l []api.Head
	for _, size := range []int{0, 1, 2, 255, 256, 257, 4095, 4096} {
		for _, time := range []int{0, 1, 255, 256, 1<<32 - 1, 1 << 32, 1<<40 - 1, 1 << 40} {
			for _, root := range []string{root, strings.Repeat("\x00", 32), strings.Repeat("\xff", 32), "\x00\x08\x09" + root[3:]} {
				l = append(l, api.Head{Size: size, Root: root, Time: time, Code: code}, api.Head{Size: size, Root: root, Time: time, Code: root})
			}
		}
	}
	return l
}

// ill are heads of which none can be signed.
func ill() []api.Head {
	return []api.Head{
		{}, {Code: code}, {Size: 1, Time: 1, Code: code},
		{Size: -1, Root: root, Time: 1, Code: code}, {Size: 4097, Root: root, Time: 1, Code: code}, {Size: math.MinInt, Root: root, Code: code}, {Size: math.MaxInt, Root: root, Code: code},
		{Size: 1, Root: root[1:], Time: 1, Code: code}, {Size: 1, Root: root + "r", Time: 1, Code: code}, {Size: 1, Root: strings.Repeat(root, 3000), Time: 1, Code: code},
		{Size: 1, Root: root, Time: -1, Code: code}, {Size: 1, Root: root, Time: 1<<40 + 1, Code: code}, {Size: 1, Root: root, Time: math.MinInt, Code: code}, {Size: 1, Root: root, Time: math.MaxInt, Code: code},
	}
}

// uncoded are heads that could be signed, but have no code of 32 bytes.
func uncoded() []api.Head {
	var l []api.Head
	for _, c := range []string{"", "c", code[1:], code + "c", code + code} {
		l = append(l, api.Head{Size: 5, Root: root, Time: 77, Code: c})
	}
	return l
}

// keys are no keys.
func noKeys() []string { return []string{"", "k", key[1:], key + "k", key + "\x00", key + key} }

// 14.1: the document's example.
func TestExample(t *testing.T) {
	if s := head.Signed(api.Head{Root: root}); !strings.HasPrefix(s, "\x09\x01\x04\x08\x01\x04head") {
		t.Errorf("Signed: %x", s)
	}
}

// 14.1: what is signed, whatever the code is.
func TestSigned(t *testing.T) {
	for _, h := range append(heads(), uncoded()...) {
		if s := head.Signed(h); s != signed(h) {
			t.Errorf("Signed of %v: %x", h, s)
		}
		if x, e := canon.Decode(head.Signed(h)); e != api.OK || !canon.Shape(x, "tndn") {
			t.Errorf("Signed of %v is no list of a text, a number, a digest and a number", h)
		}
	}
	for _, h := range ill() {
		if s := head.Signed(h); s != "" {
			t.Errorf("Signed of %v: %x", h, s)
		}
	}
}

// 14.1, 14.3: what is signed has the code of another maker, is found to be signed, and has that code each time.
func TestSign(t *testing.T) {
	r := rand.New(rand.NewSource(1))
	for _, want := range heads() {
		for _, key := range []string{key, strings.Repeat("\x00", 32), root} {
			h, e := head.Sign(key, want.Size, want.Root, want.Time)
			want.Code = codeOf(key, signed(want))
			if e != api.OK || h != want {
				t.Fatalf("Sign: %v, %v, not %v", h, e, want)
			}
			if again, _ := head.Sign(key, want.Size, want.Root, want.Time); again != h || head.Check(key, h) != api.OK {
				t.Fatalf("%v has another code, or is not found to be signed", h)
			}
			another := []byte(key)
			another[r.Intn(32)] ^= 1 << r.Intn(8)
			if head.Check(string(another), h) != api.ErrSum {
				t.Fatalf("%v is found to be signed with another key", h)
			}
		}
	}
}

// 14.1: no key ahead of no head.
func TestSignOfWrong(t *testing.T) {
	none := api.Head{}
	for _, x := range ill() {
		if h, e := head.Sign(key, x.Size, x.Root, x.Time); h != none || e != api.ErrArg {
			t.Errorf("Sign of %v: %v, %v", x, h, e)
		}
		for _, k := range noKeys() {
			if h, e := head.Sign(k, x.Size, x.Root, x.Time); h != none || e != api.ErrKey {
				t.Errorf("Sign of %v by a key of %d bytes: %v, %v", x, len(k), h, e)
			}
		}
	}
	for _, k := range noKeys() {
		if h, e := head.Sign(k, 5, root, 77); h != none || e != api.ErrKey {
			t.Errorf("Sign by a key of %d bytes: %v, %v", len(k), h, e)
		}
	}
}

// 14.1: no key ahead of no head, and no head ahead of another code.
func TestCheckOfWrong(t *testing.T) {
	for _, h := range append(ill(), uncoded()...) {
		if e := head.Check(key, h); e != api.ErrArg {
			t.Errorf("Check of %v: %v", h, e)
		}
	}
	for _, h := range append(append(ill(), uncoded()...), heads()...) {
		for _, k := range noKeys() {
			if e := head.Check(k, h); e != api.ErrKey {
				t.Errorf("Check of %v by a key of %d bytes: %v", h, len(k), e)
			}
		}
	}
	for _, h := range heads() {
		if e := head.Check(key, h); e != api.ErrSum {
			t.Errorf("Check of %v, of another code: %v", h, e)
		}
	}
}

// 14.1: a signed head of which anything is another one is not signed.
func TestCheckOfAnotherHead(t *testing.T) {
	h, _ := head.Sign(key, 5, root, 77)
	for i := range 32 {
		for bit := range 8 {
			c, r := []byte(h.Code), []byte(h.Root)
			c[i] ^= 1 << bit
			r[i] ^= 1 << bit
			for _, x := range []api.Head{{Size: 5, Root: root, Time: 77, Code: string(c)}, {Size: 5, Root: string(r), Time: 77, Code: h.Code}} {
				if e := head.Check(key, x); e != api.ErrSum {
					t.Errorf("Check of %v: %v", x, e)
				}
			}
		}
	}
	for _, x := range []api.Head{{Size: 4, Root: root, Time: 77, Code: h.Code}, {Size: 6, Root: root, Time: 77, Code: h.Code}, {Size: 77, Root: root, Time: 5, Code: h.Code}, {Size: 5, Root: root, Time: 76, Code: h.Code}, {Size: 5, Root: root, Time: 1 << 40, Code: h.Code}, {Size: 5, Root: h.Code, Time: 77, Code: root}} {
		if e := head.Check(key, x); e != api.ErrSum {
			t.Errorf("Check of %v: %v", x, e)
		}
	}
}

// 14.2, 14.3, P7: a head's bytes, and they are read as it was.
func TestText(t *testing.T) {
	for _, h := range heads() {
		s := head.Text(h)
		if s != bytesOf(h) {
			t.Errorf("Text of %v: %x", h, s)
		}
		if x, e := head.Read(s); x != h || e != api.OK {
			t.Errorf("%v is read as %v, %v", h, x, e)
		}
	}
	for _, h := range append(ill(), uncoded()...) {
		if s := head.Text(h); s != "" {
			t.Errorf("Text of %v: %x", h, s)
		}
	}
}

// refused asks whether bytes are those of no head.
func refused(t *testing.T, s string) {
	t.Helper()
	if h, e := head.Read(s); h != (api.Head{}) || e != api.ErrForm {
		t.Errorf("Read of %.100x: %v, %v", s, h, e)
	}
}

// 14.2, P7: bytes of no head that may be: lists of other things, other ways to write, pieces, and more.
func TestReadOfWrong(t *testing.T) {
	h := api.Head{Size: 5, Root: root, Time: 77, Code: code}
	s := head.Text(h)
	for i := range len(s) {
		refused(t, s[:i])
		refused(t, s[i+1:])
	}
	for _, x := range append(ill(), uncoded()...) {
		if x.Size >= 0 && x.Size <= api.MaxNum && x.Time >= 0 && x.Time <= api.MaxNum {
			refused(t, bytesOf(x))
		}
	}
	for _, x := range []string{
		"", "\x00", "x", s + "\x00", s + "x", s + s, "\x00" + s, signed(h), "\x09\x01\x01" + s, "\x09\x00",
		"\x09\x01\x03" + num(5) + text(root) + num(77), "\x09\x01\x05" + s[3:] + num(0), "\x09\x01\x05" + s[3:] + text(code),
		"\x09\x01\x04" + text(root) + num(5) + num(77) + text(code), "\x09\x01\x04" + num(5) + text(root) + text(code) + num(77), "\x09\x01\x04" + num(5) + num(77) + text(root) + text(code),
		"\x09\x01\x04" + num(5) + text(root) + text("77") + text(code), "\x09\x01\x04" + text("5") + text(root) + num(77) + text(code), "\x09\x01\x04" + num(5) + text(root) + num(77) + "\x09\x00", "\x09\x01\x04" + num(5) + num(7) + num(77) + text(code),
		"\x09\x01\x04\x02\x00\x05" + text(root) + num(77) + text(code), "\x09\x01\x04" + num(5) + text(root) + "\x02\x00\x4d" + text(code), "\x09\x02\x00\x04" + s[3:], "\x09\x01\x04" + num(5) + "\x08\x02\x00\x20" + root + num(77) + text(code),
		"\x09\x01\x04" + num(5) + text(root) + num(api.MaxNum) + text(code), "\x09\x01\x04" + num(api.MaxNum) + text(root) + num(77) + text(code), "\x09\x01\x04\x08" + s[4:],
	} {
		refused(t, x)
	}
}

// 14.2, P7: whatever is read, is written as it stood there.
func TestReadOfAnyBytes(t *testing.T) {
	r := rand.New(rand.NewSource(2))
	s, read := head.Text(api.Head{Size: 5, Root: root, Time: 77, Code: code}), 0
	for range 30000 {
		b := []byte(s)
		for range 1 + r.Intn(2) {
			b[r.Intn(len(b))] = byte(r.Intn(256))
		}
		h, e := head.Read(string(b))
		if e == api.OK {
			read++
		}
		if e == api.OK && head.Text(h) != string(b) || e != api.OK && (e != api.ErrForm || h != (api.Head{})) {
			t.Fatalf("Read of %x: %v, %v", b, h, e)
		}
	}
	if read == 0 {
		t.Error("nothing was read")
	}
}

// R3: what is answered is no piece of what was handed in.
func TestNoMemoryIsShared(t *testing.T) {
	signed, _ := head.Sign(key, 5, root, 77)
	if unsafe.StringData(signed.Root) == unsafe.StringData(root) {
		t.Error("Sign shares the root's memory")
	}
	s := head.Text(signed)
	h, _ := head.Read(s)
	for _, x := range []string{h.Root, h.Code} {
		if at := strings.Index(s, x); unsafe.StringData(x) == unsafe.StringData(s[at:]) {
			t.Error("Read shares the bytes' memory")
		}
	}
}

// 14.2: a head can be signed behind another one, if neither size nor time are less, and with one size the root is the same. Codes do not count.
func TestLater(t *testing.T) {
	a := api.Head{Size: 5, Root: root, Time: 77, Code: code}
	for _, c := range []struct {
		b    api.Head
		want bool
	}{
		{a, true}, {api.Head{Size: 5, Root: root, Time: 77}, true}, {api.Head{Size: 5, Root: root, Time: 78, Code: code}, true}, {api.Head{Size: 5, Root: root, Time: 1 << 40, Code: code}, true},
		{api.Head{Size: 6, Root: root, Time: 77, Code: code}, true}, {api.Head{Size: 6, Root: code, Time: 77, Code: code}, true}, {api.Head{Size: 4096, Root: code, Time: 78, Code: code}, true},
		{api.Head{Size: 5, Root: code, Time: 77, Code: code}, false}, {api.Head{Size: 5, Root: code, Time: 78, Code: code}, false}, {api.Head{Size: 5, Root: root, Time: 76, Code: code}, false}, {api.Head{Size: 6, Root: root, Time: 76, Code: code}, false}, {api.Head{Size: 6, Root: code, Time: 0, Code: code}, false},
		{api.Head{Size: 4, Root: root, Time: 77, Code: code}, false}, {api.Head{Size: 4, Root: root, Time: 78, Code: code}, false}, {api.Head{Size: 4, Root: code, Time: 78, Code: code}, false}, {api.Head{Size: 0, Root: root, Time: 76, Code: code}, false},
	} {
		if head.Later(a, c.b) != c.want {
			t.Errorf("Later than %v is %v: %v", a, c.b, !c.want)
		}
	}
	if !head.Later(api.Head{Root: root}, api.Head{Root: root}) || !head.Later(api.Head{Root: root}, a) || head.Later(a, api.Head{Root: root}) {
		t.Error("Later of a log of no leaves")
	}
}
