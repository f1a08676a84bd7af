package shape_test

import (
	"math/rand"
	"slices"
	"strings"
	"testing"
	"unsafe"

	"lockbox/shape"
)

func text(r *rand.Rand, n int) string {
	b := make([]byte, n)
	r.Read(b)
	return string(b)
}

// some are texts of few bytes, all of a, \x00 and \xff up to three long, and others where ends and bits count.
func some() []string {
	l := []string{""}
	for i := 0; len(l[i]) < 3; i++ {
		for _, c := range []string{"\x00", "a", "\xff"} {
			l = append(l, l[i]+c)
		}
	}
	return append(l, "\x01", "\x7f", "\x80", "\xfe", "abc", "abd", "ab", "b", "Abc", "é", strings.Repeat("\x00", 40), strings.Repeat("a", 300), strings.Repeat("a", 299)+"b", "b"+strings.Repeat("a", 299))
}

// hold holds two texts against each other by both calls.
func hold(t *testing.T, a, b string) {
	t.Helper()
	long := max(len(a), len(b))
	if is, steps := shape.Equal(a, b); is != (a == b) || steps != long {
		t.Errorf("Equal(%q, %q): %v in %d steps", a, b, is, steps)
	}
	if order, steps := shape.Order(a, b); order != strings.Compare(a, b) || steps != long {
		t.Errorf("Order(%q, %q): %d in %d steps", a, b, order, steps)
	}
}

// 6.1: the document's examples.
func TestExamples(t *testing.T) {
	if is, steps := shape.Equal("ab", "abc"); is || steps != 3 {
		t.Errorf("Equal(ab, abc): %v, %d", is, steps)
	}
	if order, steps := shape.Order("ab", "abc"); order != -1 || steps != 3 {
		t.Errorf("Order(ab, abc): %d, %d", order, steps)
	}
	if at, steps := shape.Find([]string{"a", "b", "a"}, "a"); at != 0 || steps != 3 {
		t.Errorf("Find(a, b, a; a): %d, %d", at, steps)
	}
}

// 6.1: texts of all kinds are held against each other: beginnings, bytes 0 at the ends, bytes above 127.
func TestEqualAndOrder(t *testing.T) {
	for _, a := range some() {
		for _, b := range some() {
			hold(t, a, b)
		}
	}
}

// 6.1: every byte against every other one, and against the end of a text, in front of a byte that would say otherwise.
func TestEveryByte(t *testing.T) {
	for x := range 256 {
		a := string([]byte{byte(x)})
		hold(t, a, "")
		hold(t, "", a)
		for y := range 256 {
			b := string([]byte{byte(y)})
			hold(t, a, b)
			hold(t, a+"\xff", b+"\x00")
			hold(t, "p"+a, "p"+b+"\x00")
		}
	}
}

// 6.1: one bit that is another one, in any place of a long text, is told.
func TestEveryPlace(t *testing.T) {
	s := text(rand.New(rand.NewSource(1)), 700)
	hold(t, s, s)
	for i := range s {
		b := []byte(s)
		b[i] ^= 1 << (i % 8)
		hold(t, s, string(b))
		hold(t, string(b), s)
		hold(t, s, s[:i])
		hold(t, s[:i], s)
	}
	long := strings.Repeat("l", 1<<20)
	hold(t, long, long)
	hold(t, long, long+"\x00")
	hold(t, long, long[1:]+"k")
}

// 6.1: a text of nothing, and of bytes 0 alone, is zero; no other one is.
func TestZero(t *testing.T) {
	for _, s := range some() {
		if is, steps := shape.Zero(s); is != (strings.Trim(s, "\x00") == "") || steps != len(s) {
			t.Errorf("Zero(%q): %v in %d steps", s, is, steps)
		}
	}
	for n := range 70 {
		if is, steps := shape.Zero(strings.Repeat("\x00", n)); !is || steps != n {
			t.Errorf("Zero of %d bytes 0: %v in %d steps", n, is, steps)
		}
		for i := range n {
			b := make([]byte, n)
			b[i] = 1 << (i % 8)
			if is, steps := shape.Zero(string(b)); is || steps != n {
				t.Errorf("Zero(%x): %v in %d steps", b, is, steps)
			}
		}
	}
	for c := range 256 {
		if is, steps := shape.Zero(string([]byte{byte(c)})); is != (c == 0) || steps != 1 {
			t.Errorf("Zero of the byte %d: %v in %d steps", c, is, steps)
		}
	}
}

// 6.2: of two texts, of one length or of two, the one that is asked for.
func TestPick(t *testing.T) {
	r := rand.New(rand.NewSource(2))
	l := some()
	for n := range 40 {
		l = append(l, text(r, n))
	}
	for _, a := range l {
		for _, b := range l {
			long := max(len(a), len(b))
			if s, steps := shape.Pick(true, a, b); s != a || steps != long {
				t.Errorf("Pick(true, %q, %q): %q in %d steps", a, b, s, steps)
			}
			if s, steps := shape.Pick(false, a, b); s != b || steps != long {
				t.Errorf("Pick(false, %q, %q): %q in %d steps", a, b, s, steps)
			}
		}
	}
}

// R3: what is picked shares no memory with what it was picked from.
func TestPickSharesNothing(t *testing.T) {
	a, b := text(rand.New(rand.NewSource(3)), 100), strings.Repeat("b", 100)
	s, _ := shape.Pick(true, a, b)
	u, _ := shape.Pick(false, a, b)
	if unsafe.StringData(s) == unsafe.StringData(a) || unsafe.StringData(u) == unsafe.StringData(b) {
		t.Error("Pick answers an argument's own bytes")
	}
}

// 6.2: the first place of a text among others, where it is, and where it is not; all of them are looked at.
func TestFind(t *testing.T) {
	for _, c := range []struct {
		l         []string
		s         string
		at, steps int
	}{
		{nil, "", -1, 0}, {nil, "abc", -1, 0}, {[]string{}, "", -1, 0},
		{[]string{""}, "", 0, 0}, {[]string{"a"}, "", -1, 1}, {[]string{"a", "", ""}, "", 1, 1}, {[]string{""}, "a", -1, 1},
		{[]string{"a", "b", "a"}, "b", 1, 3}, {[]string{"b", "a", "a"}, "a", 1, 3}, {[]string{"b", "b", "a"}, "a", 2, 3}, {[]string{"a", "a", "a"}, "a", 0, 3},
		{[]string{"b", "c", "d"}, "a", -1, 3},
		{[]string{"a\x00", "a", "ab"}, "a", 1, 5}, {[]string{"a", "ab", "abc", "abcd"}, "abc", 2, 13}, {[]string{"a", "ab"}, "a\x00", -1, 4},
		{[]string{"\x00", ""}, "", 1, 1}, {[]string{"", "\x00"}, "\x00", 1, 2},
	} {
		if at, steps := shape.Find(c.l, c.s); at != c.at || steps != c.steps {
			t.Errorf("Find(%q, %q): %d in %d steps, not %d in %d", c.l, c.s, at, steps, c.at, c.steps)
		}
	}
	all := some()
	for i, s := range all {
		want := 0
		for _, x := range all {
			want += max(len(x), len(s))
		}
		if at, steps := shape.Find(all, s); at != slices.Index(all, s) || steps != want {
			t.Errorf("Find among all of the place %d: %d in %d steps, not %d", i, at, steps, want)
		}
	}
}

// R3: Find leaves its list as it is.
func TestFindLeavesItsList(t *testing.T) {
	l := []string{"c", "a", "b"}
	shape.Find(l[:2], "b")
	if !slices.Equal(l, []string{"c", "a", "b"}) {
		t.Errorf("Find changed its list to %q", l)
	}
}

// 6.2: all bits, or none.
func TestMask(t *testing.T) {
	if shape.Mask(true) != 255 || shape.Mask(false) != 0 {
		t.Errorf("Mask: %d, %d", shape.Mask(true), shape.Mask(false))
	}
}

// 6.3: texts of the same lengths take the same number of steps, whatever their bytes are.
func TestStepsHangOnLengths(t *testing.T) {
	r := rand.New(rand.NewSource(4))
	for _, n := range []int{0, 1, 2, 7, 64, 255} {
		for _, m := range []int{0, 1, 2, 7, 64, 255} {
			zeros, first := strings.Repeat("\x00", n), strings.Repeat("\x00", m)
			want := allSteps(zeros, first)
			for range 20 {
				a, b := text(r, n), text(r, m)
				if n == m && r.Intn(2) == 0 {
					b = a
				}
				if got := allSteps(a, b); got != want {
					t.Errorf("steps for %x and %x: %d; for bytes 0: %d", a, b, got, want)
				}
			}
		}
	}
}

// allSteps are the steps of every call for two texts.
func allSteps(a, b string) [6]int {
	_, equal := shape.Equal(a, b)
	_, order := shape.Order(a, b)
	_, zero := shape.Zero(a)
	_, pickA := shape.Pick(true, a, b)
	_, pickB := shape.Pick(false, a, b)
	_, find := shape.Find([]string{a, b, a, "x"}, b)
	return [6]int{equal, order, zero, pickA, pickB, find}
}
