package words_test

import (
	"crypto/hmac"
	"crypto/sha256"
	"math/rand"
	"regexp"
	"slices"
	"strconv"
	"strings"
	"testing"
	"unsafe"

	"lockbox/api"
	"lockbox/words"
)

var key = strings.Repeat("k", 32)

// letters are all bytes of which words are made, and those that stand for one.
const letters = "abcdefghijklmnopqrstuvwxyz0123456789ABCDEFGHIJKLMNOPQRSTUVWXYZ"

// noKeys are texts that are no keys.
func noKeys() []string {
	return []string{"", "k", key[1:], key + "k", key + "\x00", key + key}
}

// lower is a text with A to Z as a to z, and all else as it is.
func lower(s string) string {
	b := []byte(s)
	for i, c := range b {
		if strings.IndexByte("ABCDEFGHIJKLMNOPQRSTUVWXYZ", c) >= 0 {
			b[i] = c | 0x20
		}
	}
	return string(b)
}

// tagOf is a tag of another maker.
func tagOf(key, word string) string {
	m := hmac.New(sha256.New, []byte(key))
	m.Write([]byte("tag\x00" + word))
	return string(m.Sum(nil))
}

// tagsOf are tags of another maker.
func tagsOf(key string, l []string) []string {
	there := map[string]bool{}
	for _, w := range l {
		there[tagOf(key, lower(w))] = true
	}
	var out []string
	for s := range there {
		out = append(out, s)
	}
	slices.Sort(out)
	return out
}

// wordsOf are a text's words as the document says, by another way.
func wordsOf(text string) []string {
	there := map[string]bool{}
	b := []rune{} // each byte as a rune of its own, so that the runs are those of bytes
	for _, c := range []byte(text) {
		b = append(b, rune(c))
	}
	for _, run := range regexp.MustCompile("[a-zA-Z0-9]+").FindAllString(string(b), -1) {
		if len(run) <= 24 {
			there[lower(run)] = true
		}
	}
	var out []string
	for s := range there {
		out = append(out, s)
	}
	slices.Sort(out)
	return out[:min(len(out), 12)]
}

func text(r *rand.Rand, n int, from string) string {
	b := make([]byte, n)
	for i := range b {
		b[i] = from[r.Intn(len(from))]
	}
	return string(b)
}

// 15.1: words, and A to Z as a to z, up to the longest.
func TestNorm(t *testing.T) {
	for _, c := range []struct{ s, want string }{
		{"a", "a"}, {"z", "z"}, {"A", "a"}, {"Z", "z"}, {"0", "0"}, {"9", "9"}, {"Bob", "bob"}, {"CAT2", "cat2"}, {"007", "007"},
		{letters[:24], letters[:24]}, {letters[24:36], "yz0123456789"}, {letters[38:62], "cdefghijklmnopqrstuvwxyz"}, {strings.Repeat("Z", 24), strings.Repeat("z", 24)},
	} {
		if w, e := words.Norm(c.s); w != c.want || e != api.OK {
			t.Errorf("Norm(%q): %q, %v", c.s, w, e)
		}
	}
}

// 15.1: of each byte, alone and amid others.
func TestNormOfAllBytes(t *testing.T) {
	for i := range 256 {
		c := string([]byte{byte(i)})
		for _, s := range []string{c, c + "a", "a" + c, "a" + c + "b", strings.Repeat("a", 23) + c} {
			w, e := words.Norm(s)
			switch {
			case strings.Contains(letters, c) && (w != lower(s) || e != api.OK):
				t.Errorf("Norm(%q): %q, %v", s, w, e)
			case !strings.Contains(letters, c) && (w != "" || e != api.ErrForm):
				t.Errorf("Norm(%q): %q, %v", s, w, e)
			}
		}
	}
}

// 15.1: what is no word; that bytes are no letters comes ahead of that they are too many.
func TestNormOfWrong(t *testing.T) {
	for _, c := range []struct {
		s    string
		want api.Errno
	}{
		{"", api.ErrForm}, {" ", api.ErrForm}, {"a b", api.ErrForm}, {" a", api.ErrForm}, {"a ", api.ErrForm}, {"a-b", api.ErrForm}, {"\x00", api.ErrForm}, {"a\x00", api.ErrForm}, {"\xff", api.ErrForm},
		{"Ä", api.ErrForm}, {"stra\u00dfe", api.ErrForm}, {"\u212a", api.ErrForm}, {"\u017f", api.ErrForm}, {"\u0664", api.ErrForm}, {"\uff21", api.ErrForm}, // among them runes whose small letter is k, or s
		{"@", api.ErrForm}, {"[", api.ErrForm}, {"`", api.ErrForm}, {"{", api.ErrForm}, {"/", api.ErrForm}, {":", api.ErrForm}, // the bytes next to letters
		{strings.Repeat("a", 25), api.ErrLong}, {strings.Repeat("Z", 25), api.ErrLong}, {strings.Repeat("9", 1<<20), api.ErrLong},
		{strings.Repeat("a", 24) + "-", api.ErrForm}, {"-" + strings.Repeat("a", 25), api.ErrForm}, {strings.Repeat("a", 1<<20) + "\xc1", api.ErrForm},
	} {
		if w, e := words.Norm(c.s); w != "" || e != c.want {
			t.Errorf("Norm of %d bytes, %.30q: %q, %v", len(c.s), c.s, w, e)
		}
	}
}

// 15.1: the document's example, and the words' edges: runs as long as they can be, each once, by their bytes, the first ones.
func TestOf(t *testing.T) {
	long := strings.Repeat("b", 24)
	for _, c := range []struct{ text, want string }{
		{"The cat, the CAT-2!", "2 cat the"},
		{"", ""}, {" ", ""}, {"\x00\xff", ""}, {"-- .,!", ""}, {"a", "a"}, {" a ", "a"}, {"-a", "a"}, {"a-", "a"}, {"b a", "a b"}, {"a A a A", "a"},
		{"ab abc a b", "a ab abc b"}, {"z 9 a 0", "0 9 a z"}, {"10 9 1", "1 10 9"}, {"don't", "don t"}, {"a1B2", "a1b2"}, {"a@b[c`d{e/f:g", "a b c d e f g"},
		{"\xe4a\x00b\xff", "a b"}, {"stra\u00dfe \u212aelvin \u017fo", "e elvin o stra"},
		{long, long}, {long + "b", ""}, {long + " b", "b " + long}, {long + "b b", "b"}, {"a " + long + "c " + long, "a " + long}, {long + long, ""}, {strings.ToUpper(long), long},
		{"n m l k j i h g f e d c b a", "a b c d e f g h i j k l"}, {"a b c d e f g h i j k l m", "a b c d e f g h i j k l"}, {"b c d e f g h i j k l m a", "a b c d e f g h i j k l"}, {"m l k j i h g f e d c b", "b c d e f g h i j k l m"},
		{"a b c d e f g h i j k l L K a", "a b c d e f g h i j k l"}, {"c d e f g h i j k l m n b b a a", "a b c d e f g h i j k l"}, {"b c d e f g h i j k l m " + long + "b a", "a b c d e f g h i j k l"},
	} {
		if l := words.Of(c.text); !slices.Equal(l, strings.Fields(c.want)) {
			t.Errorf("Of(%q): %q", c.text, l)
		}
	}
}

// 15.1, 15.3: any texts, against words found by another way; these are words, and those of the text that they make.
func TestOfAnyText(t *testing.T) {
	r := rand.New(rand.NewSource(1))
	all := ""
	for i := range 256 {
		all += string([]byte{byte(i)})
	}
	for _, from := range []string{"aB ", "ab1-", letters + "    ", letters + letters + letters + " ", all, "a \xe2\x84\xaa"} {
		for range 3000 {
			s := text(r, r.Intn(200), from)
			l := words.Of(s)
			if !slices.Equal(l, wordsOf(s)) {
				t.Fatalf("Of(%q): %q", s, l)
			}
			for _, w := range l {
				if v, e := words.Norm(w); v != w || e != api.OK {
					t.Fatalf("Of(%q): %q is no word", s, w)
				}
			}
			if again := words.Of(strings.Join(l, " ")); !slices.Equal(again, l) {
				t.Fatalf("the words of %q are %q", l, again)
			}
		}
	}
}

// R1, 15.1: long texts, with very many words, or of one run.
func TestOfLongTexts(t *testing.T) {
	var b strings.Builder
	for i := range 300000 {
		b.WriteString(strconv.Itoa(999999-i) + ",")
	}
	want := strings.Fields("700000 700001 700002 700003 700004 700005 700006 700007 700008 700009 700010 700011")
	if l := words.Of(b.String()); !slices.Equal(l, want) {
		t.Errorf("Of many words: %q", l)
	}
	if l := words.Of(strings.Repeat("a", 1<<22)); len(l) != 0 {
		t.Errorf("Of one run: %q", l)
	}
	if l := words.Of(strings.Repeat("a", 1<<22) + " b"); !slices.Equal(l, []string{"b"}) {
		t.Errorf("Of one run and a word: %q", l)
	}
}

// 15.2: tags of another maker, of words as they are and as they could be written.
func TestTag(t *testing.T) {
	for _, k := range []string{key, strings.Repeat("\x00", 32), strings.Repeat("\xff", 32), letters[:32]} {
		for _, w := range []string{"a", "bob", "BOB", "Bob", "tag", "2", letters[:24], strings.Repeat("Z", 24)} {
			if tag, e := words.Tag(k, w); tag != tagOf(k, lower(w)) || e != api.OK {
				t.Errorf("Tag(%.2x, %q): %x, %v", k, w, tag, e)
			}
			if l, e := words.Tags(k, []string{w}); e != api.OK || !slices.Equal(l, []string{tagOf(k, lower(w))}) {
				t.Errorf("Tags(%.2x, %q): %x, %v", k, w, l, e)
			}
		}
	}
}

// 15.2: no key ahead of no word.
func TestTagOfWrong(t *testing.T) {
	for _, w := range []string{"bob", "", "a b", strings.Repeat("a", 25)} {
		for _, k := range noKeys() {
			if tag, e := words.Tag(k, w); tag != "" || e != api.ErrKey {
				t.Errorf("Tag by a key of %d bytes: %x, %v", len(k), tag, e)
			}
			if l := words.Texts(k, w); len(l) != 0 {
				t.Errorf("Texts by a key of %d bytes: %q", len(k), l)
			}
		}
	}
	for w, want := range map[string]api.Errno{"": api.ErrForm, "a b": api.ErrForm, "-": api.ErrForm, "\xff": api.ErrForm, strings.Repeat("a", 25): api.ErrLong, strings.Repeat("a", 25) + "-": api.ErrForm} {
		if tag, e := words.Tag(key, w); tag != "" || e != want {
			t.Errorf("Tag of %q: %x, %v", w, tag, e)
		}
		if l := words.Texts(key, w); len(l) != 0 {
			t.Errorf("Texts of %q: %q", w, l)
		}
	}
}

// 15.2: the tags of words, each once, by their bytes.
func TestTags(t *testing.T) {
	r := rand.New(rand.NewSource(2))
	for n := range 13 {
		for range 30 {
			var l []string
			for range n {
				l = append(l, text(r, 1+r.Intn(2), "aAbB01xyzXYZ"))
			}
			was := slices.Clone(l)
			tags, e := words.Tags(key, l)
			if e != api.OK || !slices.Equal(tags, tagsOf(key, l)) {
				t.Fatalf("Tags of %q: %x, %v", l, tags, e)
			}
			if !slices.Equal(l, was) {
				t.Fatalf("Tags changed what it was given: %q", l)
			}
		}
	}
	for _, l := range [][]string{nil, {}} {
		if tags, e := words.Tags(key, l); len(tags) != 0 || e != api.OK {
			t.Errorf("Tags of none: %x, %v", tags, e)
		}
	}
	if tags, e := words.Tags(key, strings.Fields("bob BOB Bob bOb bob bob bob bob bob bob bob boB")); e != api.OK || !slices.Equal(tags, []string{tagOf(key, "bob")}) {
		t.Errorf("Tags of one word: %x, %v", tags, e)
	}
}

// 15.2: the first word that has an error tells it, ahead of that there are too many; no key comes first, and is told of no words, too.
func TestTagsOfWrong(t *testing.T) {
	long, twelve := strings.Repeat("a", 25), strings.Fields("a b c d e f g h i j k l")
	with := func(more ...string) []string { return append(slices.Clone(twelve), more...) }
	for _, c := range []struct {
		l    []string
		want api.Errno
	}{
		{[]string{"-"}, api.ErrForm}, {[]string{""}, api.ErrForm}, {[]string{long}, api.ErrLong}, {[]string{"a", "-"}, api.ErrForm}, {[]string{"a", long}, api.ErrLong},
		{[]string{"-", long}, api.ErrForm}, {[]string{long, "-"}, api.ErrLong}, {[]string{"a", long, "b", "-"}, api.ErrLong}, {[]string{"a", "-", "b", long}, api.ErrForm},
		{with("m"), api.ErrLong}, {with("a"), api.ErrLong}, {slices.Repeat([]string{"a"}, 13), api.ErrLong}, {slices.Repeat(twelve, 1000), api.ErrLong},
		{with("-"), api.ErrForm}, {with("m", "-"), api.ErrForm}, {with("m", long, "-"), api.ErrLong}, {append([]string{"-"}, twelve...), api.ErrForm}, {make([]string, 13), api.ErrForm},
	} {
		if tags, e := words.Tags(key, c.l); len(tags) != 0 || e != c.want {
			t.Errorf("Tags of %d words, %.60q: %x, %v", len(c.l), c.l, tags, e)
		}
		for _, k := range noKeys() {
			if tags, e := words.Tags(k, c.l); len(tags) != 0 || e != api.ErrKey {
				t.Errorf("Tags by a key of %d bytes: %x, %v", len(k), tags, e)
			}
		}
	}
	for _, k := range noKeys() {
		for _, l := range [][]string{nil, {}, {"a"}, twelve} {
			if tags, e := words.Tags(k, l); len(tags) != 0 || e != api.ErrKey {
				t.Errorf("Tags of %d words by a key of %d bytes: %x, %v", len(l), len(k), tags, e)
			}
		}
	}
}

// 15.2: the texts that are summed for a tag: the digest of the first one ends the second one, whose digest is the tag.
func TestTexts(t *testing.T) {
	for _, w := range []string{"a", "Bob", letters[:24]} {
		l := words.Texts(key, w)
		if len(l) != 2 {
			t.Fatalf("Texts of %q: %q", w, l)
		}
		inner, outer := sha256.Sum256([]byte(l[0])), sha256.Sum256([]byte(l[1]))
		tag, _ := words.Tag(key, w)
		if !strings.HasSuffix(l[0], "tag\x00"+lower(w)) || len(l[0]) != 64+4+len(w) || l[1][64:] != string(inner[:]) || string(outer[:]) != tag {
			t.Errorf("Texts of %q: %q", w, l)
		}
	}
}

// R3: what is answered is no piece of what was handed in.
func TestNoMemoryIsShared(t *testing.T) {
	s := strings.Repeat("cat ", 2)
	w, _ := words.Norm(s[:3])
	if unsafe.StringData(w) == unsafe.StringData(s) {
		t.Error("Norm shares the text's memory")
	}
	if l := words.Of(s); unsafe.StringData(l[0]) == unsafe.StringData(s) || unsafe.StringData(l[0]) == unsafe.StringData(s[4:]) {
		t.Error("Of shares the text's memory")
	}
}
