package frame_test

import (
	"encoding/binary"
	"hash/crc32"
	"math/rand"
	"slices"
	"strings"
	"testing"

	"lockbox/api"
	"lockbox/frame"
)

func text(r *rand.Rand, n int) string {
	b := make([]byte, n)
	r.Read(b)
	return string(b)
}

// framed is a body's frame as the document's words say.
func framed(body string) string {
	long := binary.BigEndian.AppendUint32(nil, uint32(len(body)))[1:]
	sum := binary.LittleEndian.AppendUint32(nil, crc32.ChecksumIEEE(append(slices.Clone(long), body...)))
	return "\xe5" + string(long) + string(sum) + body
}

// 11.1: the document's example.
func TestExample(t *testing.T) {
	s, e := frame.Wrap("a")
	if e != api.OK || len(s) != 9 || s[:4] != "\xe5\x00\x00\x01" || s[8:] != "a" || frame.Long("a") != 9 {
		t.Errorf("Wrap(a): %x, %v", s, e)
	}
	if frame.MaxBody != 32768 || frame.Head != 8 {
		t.Errorf("MaxBody %d, Head %d", frame.MaxBody, frame.Head)
	}
}

// 11.1: frames of bodies of all short lengths, and of the longest there are.
func TestWrap(t *testing.T) {
	r := rand.New(rand.NewSource(1))
	lengths := []int{1000, 4095, 4096, 32766, 32767, 32768}
	for n := range 600 {
		lengths = append(lengths, n+1)
	}
	for _, n := range lengths {
		for _, body := range []string{text(r, n), strings.Repeat("\x00", n), strings.Repeat("\xe5", n)} {
			s, e := frame.Wrap(body)
			if e != api.OK || s != framed(body) {
				t.Fatalf("Wrap of %d bytes: %.20x.., %v", n, s, e)
			}
			if frame.Long(body) != n+8 || frame.Long(body) != len(s) {
				t.Fatalf("Long of %d bytes: %d", n, frame.Long(body))
			}
		}
	}
}

// 11.1: what has no frame: nothing, and more than 32768 bytes.
func TestWrapOfWrong(t *testing.T) {
	for _, c := range []struct {
		n    int
		want api.Errno
	}{{0, api.ErrArg}, {32769, api.ErrLong}, {32770, api.ErrLong}, {65536, api.ErrLong}, {1 << 24, api.ErrLong}, {1<<24 + 1, api.ErrLong}} {
		body := strings.Repeat("b", c.n)
		if s, e := frame.Wrap(body); s != "" || e != c.want {
			t.Errorf("Wrap of %d bytes: %.20x, %v", c.n, s, e)
		}
		if frame.Long(body) != 0 {
			t.Errorf("Long of %d bytes: %d", c.n, frame.Long(body))
		}
		if s, e := frame.Wraps([]string{body}); s != "" || e != c.want {
			t.Errorf("Wraps of %d bytes: %.20x, %v", c.n, s, e)
		}
	}
}

// 11.1: frames one behind the other; of several errors the first body's.
func TestWraps(t *testing.T) {
	long := strings.Repeat("b", 32769)
	for i, c := range []struct {
		l    []string
		want api.Errno
	}{
		{nil, api.OK}, {[]string{}, api.OK}, {[]string{"a"}, api.OK}, {[]string{"a", "a", "b", "\x00"}, api.OK}, {[]string{long[:32768], "c", long[:32768]}, api.OK},
		{[]string{""}, api.ErrArg}, {[]string{"a", "", long}, api.ErrArg}, {[]string{"a", long, ""}, api.ErrLong}, {[]string{"a", "b", long}, api.ErrLong}, {[]string{"", "a"}, api.ErrArg},
	} {
		want := ""
		for _, body := range c.l {
			if c.want == api.OK {
				want += framed(body)
			}
		}
		handed := slices.Clone(c.l)
		if s, e := frame.Wraps(handed); s != want || e != c.want {
			t.Errorf("%d: %d bytes, %v", i, len(s), e)
		}
		if !slices.Equal(handed, c.l) {
			t.Errorf("%d: the list that was handed in is another one", i)
		}
	}
}

// 11.2, 11.3: what was wrapped is found, whatever stands behind it.
func TestFront(t *testing.T) {
	r := rand.New(rand.NewSource(2))
	for _, n := range []int{1, 2, 3, 7, 8, 9, 255, 256, 257, 900, 32767, 32768} {
		body := text(r, n)
		for _, behind := range []string{"", "\x00", "\xe5", "x", framed(body), framed(body)[:3], text(r, 70000)} {
			if b, rest, e := frame.Front(framed(body) + behind); b != body || rest != behind || e != api.OK {
				t.Errorf("Front of a frame of %d bytes, and %d: %d bytes, %d behind, %v", n, len(behind), len(b), len(rest), e)
			}
		}
	}
}

// refused asks whether no frame stands at the front, for the reason that is told.
func refused(t *testing.T, s string, want api.Errno) {
	t.Helper()
	if body, rest, e := frame.Front(s); body != "" || rest != "" || e != want {
		t.Errorf("Front of %.20x, %d bytes: %d, %d, %v, not %v", s, len(s), len(body), len(rest), e, want)
	}
	if l, at, why := frame.Scan(s); len(l) != 0 || at != 0 || why != want {
		t.Errorf("Scan of %.20x, %d bytes: %d, %d, %v, not %v", s, len(s), len(l), at, why, want)
	}
	front := framed("ahead")
	if l, at, why := frame.Scan(front + s); !slices.Equal(l, []string{"ahead"}) || at != len(front) || why != want {
		t.Errorf("Scan of a frame and %.20x, %d bytes: %q, %d, %v, not %v", s, len(s), l, at, why, want)
	}
}

// 11.2: why no frame stands there. The first byte is looked at first, then the length, as soon as all of it is there, then whether all is there, then the sum.
func TestFrontOfWrong(t *testing.T) {
	s := framed("ab")
	long := strings.Repeat("x", 70000)
	for _, c := range []struct {
		s    string
		want api.Errno
	}{
		{"", api.ErrNone},
		{"\x00", api.ErrForm}, {"\xe4", api.ErrForm}, {"\xe6", api.ErrForm}, {"\x65", api.ErrForm}, {"\xff", api.ErrForm}, {"x" + s, api.ErrForm}, {s[1:], api.ErrForm}, {"\x00\x00\x00\x00\x00", api.ErrForm},
		{"\xe5", api.ErrShort}, {"\xe5\x00", api.ErrShort}, {"\xe5\xff", api.ErrShort}, {"\xe5\xff\xff", api.ErrShort}, {"\xe5\x00\x80", api.ErrShort}, {"\xe5\x00\x00", api.ErrShort}, {"\xe5\x01\x00", api.ErrShort},
		{"\xe5\x00\x00\x00", api.ErrForm}, {"\xe5\x00\x80\x01", api.ErrForm}, {"\xe5\x00\xff\xff", api.ErrForm}, {"\xe5\x01\x00\x00", api.ErrForm}, {"\xe5\x01\x00\x01", api.ErrForm}, {"\xe5\x80\x00\x01", api.ErrForm}, {"\xe5\xff\xff\xff", api.ErrForm},
		{"\xe5\x00\x00\x00" + long, api.ErrForm}, {"\xe5\x00\x80\x01" + long, api.ErrForm}, {"\xe5\x01\x00\x01" + long, api.ErrForm},
		{"\xe5\x00\x00\x01", api.ErrShort}, {"\xe5\x00\x80\x00", api.ErrShort}, {"\xe5\x00\x7f\xff", api.ErrShort}, {"\xe5\x00\x80\x00" + long[:32771], api.ErrShort}, {"\xe5\x00\x80\x00" + long[:32772], api.ErrSum}, {"\xe5\x00\x80\x00" + long, api.ErrSum},
		{s[:4] + "\x00\x00\x00\x00a", api.ErrShort}, {s[:4] + "\x00\x00\x00\x00ab", api.ErrSum}, {s[:9] + "c", api.ErrSum}, {s[:8] + "ba", api.ErrSum}, {s[:8] + "abc"[1:], api.ErrSum},
		{"\xe5\x00\x00\x01" + s[4:], api.ErrSum}, {"\xe5\x00\x00\x03" + s[4:], api.ErrShort}, {"\xe5\x00\x00\x03" + s[4:] + "c", api.ErrSum},
		{s[:4] + s[7:8] + s[6:7] + s[5:6] + s[4:5] + "ab", api.ErrSum}, // the sum's bytes the other way round
	} {
		refused(t, c.s, c.want)
	}
	for i := range 256 {
		if i != 0xe5 {
			refused(t, string([]byte{byte(i)})+s[1:], api.ErrForm)
		}
	}
	for n := 1; n < len(s); n++ {
		refused(t, s[:n], api.ErrShort)
	}
}

// 11.2: a sum of the body alone, or of all ahead of it, too, is another one.
func TestSumIsOfLengthAndBody(t *testing.T) {
	for _, summed := range []string{"ab", "\xe5\x00\x00\x02ab", "\x02\x00\x00ab", "ab\x00\x00\x02"} {
		sum := binary.LittleEndian.AppendUint32(nil, crc32.ChecksumIEEE([]byte(summed)))
		refused(t, "\xe5\x00\x00\x02"+string(sum)+"ab", api.ErrSum)
	}
}

// 11.2, 11.3: frames that are cut off anywhere tell those that are whole, and how they end.
func TestScanOfCutOff(t *testing.T) {
	r := rand.New(rand.NewSource(3))
	bodies := []string{"a", "\x00", text(r, 30), "\xe5", framed("in it"), text(r, 300), "a"}
	all, e := frame.Wraps(bodies)
	if e != api.OK {
		t.Fatal(e)
	}
	whole, end := 0, 0
	for n := range len(all) + 1 {
		want := api.ErrShort
		if whole < len(bodies) && n == end+len(framed(bodies[whole])) {
			end = n
			whole++
		}
		if n == end {
			want = api.ErrNone
		}
		if l, at, why := frame.Scan(all[:n]); !slices.Equal(l, bodies[:whole]) || at != end || why != want {
			t.Fatalf("cut off at %d: %d bodies, not %d, to %d, %v, not %v", n, len(l), whole, at, why, want)
		}
	}
	if whole != len(bodies) {
		t.Errorf("%d whole ones", whole)
	}
}

// 11.2: the scan ends at the first place where no frame stands, also if there are more behind it.
func TestScanEnds(t *testing.T) {
	front := framed("one") + framed("two")
	for _, c := range []struct {
		between string
		want    api.Errno
	}{{"\x00", api.ErrForm}, {"x", api.ErrForm}, {"\xe5", api.ErrForm}, {framed("z")[:8] + "y", api.ErrSum}, {"\xe5\x00\x00\x00\x00\x00\x00\x00", api.ErrForm}, {"\xe5\x00\x7f\xff", api.ErrShort}} {
		if l, at, why := frame.Scan(front + c.between + framed("three")); !slices.Equal(l, []string{"one", "two"}) || at != len(front) || why != c.want {
			t.Errorf("%x between: %q, %d, %v", c.between, l, at, why)
		}
	}
	if l, at, why := frame.Scan(front); len(l) != 2 || at != len(front) || why != api.ErrNone {
		t.Errorf("frames alone: %q, %d, %v", l, at, why)
	}
}

// 11.3: bits that are turned in a body within 32 that stand side by side are told, wherever they stand; so are those of a sum.
func TestTurnedBits(t *testing.T) {
	r := rand.New(rand.NewSource(4))
	patterns := []uint32{1 << 31, 1<<31 | 1, 0xffffffff, 0xedb88320, 0xdb710641, 0x04c11db7, 0x82608edb}
	for p := range uint32(1 << 8) {
		patterns = append(patterns, p+1)
	}
	for range 500 {
		patterns = append(patterns, r.Uint32()|1)
	}
	for _, n := range []int{1, 2, 4, 5, 12} {
		body := text(r, n)
		s := framed(body)
		for at := range n * 8 {
			for _, p := range patterns {
				turned := turn(body, at, p)
				if turned == body {
					continue
				}
				if _, _, e := frame.Front(s[:8] + turned); e != api.ErrSum {
					t.Fatalf("the pattern %08x, turned at the bit %d of %x: %v", p, at, body, e)
				}
			}
		}
		for at := range 32 {
			if _, _, e := frame.Front(s[:4] + turn(s[4:8], at, 1) + body); e != api.ErrSum {
				t.Errorf("the bit %d of the sum is turned: %v", at, e)
			}
		}
	}
}

// turn turns the bits of a pattern from one bit of s on, as far as s goes.
func turn(s string, at int, pattern uint32) string {
	b := []byte(s)
	for i := range 32 {
		if j := at + i; j < 8*len(b) && pattern>>i&1 == 1 {
			b[j/8] ^= 1 << (j % 8)
		}
	}
	return string(b)
}

// front is Front as the document's words say.
func front(s string) (string, string, api.Errno) {
	if len(s) == 0 {
		return "", "", api.ErrNone
	}
	if s[0] != 0xe5 {
		return "", "", api.ErrForm
	}
	if len(s) < 4 {
		return "", "", api.ErrShort
	}
	n := int(s[1])*65536 + int(s[2])*256 + int(s[3])
	if n < 1 || n > 32768 {
		return "", "", api.ErrForm
	}
	if len(s) < 8+n {
		return "", "", api.ErrShort
	}
	if framed(s[8:8+n]) != s[:8+n] {
		return "", "", api.ErrSum
	}
	return s[8 : 8+n], s[8+n:], api.OK
}

// 11.2, P7: of any bytes Front and Scan answer what the document's words say, and what is found, wrapped again, are the bytes that stood there.
func TestAnyBytes(t *testing.T) {
	r := rand.New(rand.NewSource(5))
	for range 100000 {
		s := anyBytes(r)
		body, rest, e := front(s)
		if b, x, got := frame.Front(s); b != body || x != rest || got != e {
			t.Fatalf("Front(%x): %x, %x, %v, not %v", s, b, x, got, e)
		}
		l, at, why := frame.Scan(s)
		left, bodies := s, 0
		for {
			body, rest, e := front(left)
			if e != api.OK {
				if why != e || at != len(s)-len(left) || len(l) != bodies {
					t.Fatalf("Scan(%x): %d, to %d, %v, not %v", s, len(l), at, why, e)
				}
				break
			}
			if bodies >= len(l) || l[bodies] != body {
				t.Fatalf("Scan(%x): the body %d is not %x", s, bodies, body)
			}
			left = rest
			bodies++
		}
		if again, e := frame.Wraps(l); e != api.OK || again != s[:at] {
			t.Fatalf("Scan(%x), wrapped again: %x, %v", s, again, e)
		}
	}
}

// anyBytes are bytes in which frames, and beginnings of some, stand often.
func anyBytes(r *rand.Rand) string {
	s := ""
	for range r.Intn(5) {
		f := framed(text(r, 1+r.Intn(5)))
		switch r.Intn(6) {
		case 0:
			f = turn(f, r.Intn(8*len(f)), 1)
		case 1:
			f = f[:r.Intn(len(f))]
		case 2:
			f = "\xe5\x00\x00" + text(r, r.Intn(8))
		case 3:
			f = text(r, r.Intn(3))
		}
		s += f
	}
	return s
}

// R3: the bodies of one scan are not those of another.
func TestScanSharesNothing(t *testing.T) {
	s := framed("a") + framed("b")
	l, _, _ := frame.Scan(s)
	l[0], l[1] = "z", "z"
	if l, _, _ = frame.Scan(s); !slices.Equal(l, []string{"a", "b"}) {
		t.Errorf("scanned again: %q", l)
	}
}
