package tree

import (
	"math/rand"
	"slices"
	"testing"
	"unsafe"
)

// length is a sum under which there are twins: of texts of one length.
func length(s string) string { return string([]byte{byte(len(s))}) }

// twinOf is the first text that has an unlike one behind it of one sum, and that.
func twinOf(texts []string) (string, string, bool) {
	for i, a := range texts {
		for _, b := range texts[i+1:] {
			if a != b && length(a) == length(b) {
				return a, b, true
			}
		}
	}
	return "", "", false
}

// 13.4: of all twins the one whose first text stands first is told, with the first one behind it.
func TestTwinUnderAnotherSum(t *testing.T) {
	for _, c := range []struct {
		texts []string
		a, b  string
		is    bool
	}{
		{nil, "", "", false}, {[]string{""}, "", "", false}, {[]string{"", ""}, "", "", false}, {[]string{"a", "bb", "a", "bb"}, "", "", false},
		{[]string{"a", "b"}, "a", "b", true}, {[]string{"b", "a"}, "b", "a", true}, {[]string{"a", "a", "b"}, "a", "b", true}, {[]string{"a", "b", "a", "c"}, "a", "b", true},
		{[]string{"a", "bb", "cc", "d"}, "a", "d", true}, {[]string{"aa", "b", "c", "d", "cc", "dd"}, "aa", "cc", true}, {[]string{"", "a", "b", ""}, "a", "b", true}, {[]string{"aaa", "bb", "c", "cc", "bbb", "b", "ccc"}, "aaa", "bbb", true},
	} {
		handed := slices.Clone(c.texts)
		if a, b, is := twin(handed, length); a != c.a || b != c.b || is != c.is {
			t.Errorf("the twin of %q: %q, %q, %v", c.texts, a, b, is)
		}
		if !slices.Equal(handed, c.texts) {
			t.Errorf("the list %q is another one: %q", c.texts, handed)
		}
	}
	r := rand.New(rand.NewSource(1))
	for range 20000 {
		texts := make([]string, r.Intn(9))
		for i := range texts {
			for range r.Intn(6) {
				texts[i] += string([]byte{byte('a' + r.Intn(2))})
			}
		}
		a, b, is := twin(texts, length)
		if x, y, there := twinOf(texts); a != x || b != y || is != there {
			t.Fatalf("the twin of %q: %q, %q, %v, not %q, %q", texts, a, b, is, x, y)
		}
	}
}

// R3: a twin is no piece of what was handed in.
func TestTwinSharesNoMemory(t *testing.T) {
	texts := []string{"ab", "cd"}
	a, b, _ := twin(texts, length)
	if unsafe.StringData(a) == unsafe.StringData(texts[0]) || unsafe.StringData(b) == unsafe.StringData(texts[1]) {
		t.Error("memory is shared")
	}
}
