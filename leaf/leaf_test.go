package leaf_test

import (
	"math"
	"math/rand"
	"slices"
	"strings"
	"testing"
	"unsafe"

	"lockbox/api"
	"lockbox/leaf"
)

// thirtyTwo is a text of 32 bytes, all the same.
func thirtyTwo(c byte) string { return strings.Repeat(string([]byte{c}), 32) }

var digest, index = thirtyTwo('d'), thirtyTwo('x')

// num, text and list are items as the words of layer 2 write them.
func num(n int) string {
	s := ""
	for ; n > 0; n /= 256 {
		s = string([]byte{byte(n)}) + s
	}
	return string([]byte{byte(len(s))}) + s
}

func text(s string) string { return "\x08" + num(len(s)) + s }

func list(l ...string) string { return "\x09" + num(len(l)) + strings.Join(l, "") }

// bytesOf is a leaf's bytes as the document's words say.
func bytesOf(l api.Leaf) string {
	var tags []string
	for _, p := range l.Tags {
		tags = append(tags, list(text(p.Tag), num(p.Prev)))
	}
	return list(num(l.Number), num(l.Kind), text(l.Digest), list(tags...), text(l.Index))
}

// postings are so many, rising, all with one Prev.
func postings(n, prev int) []api.Posting {
	var l []api.Posting
	for i := range n {
		l = append(l, api.Posting{Tag: thirtyTwo(byte('a' + i)), Prev: prev})
	}
	return l
}

func entry(number int, tags ...api.Posting) api.Leaf {
	return api.Leaf{Number: number, Kind: 1, Digest: digest, Tags: tags, Index: index}
}

// leaves are some that may be, at all edges.
func leaves() []api.Leaf {
	almost := thirtyTwo('a')[:31]
	var l []api.Leaf
	for _, number := range []int{0, 1, 2, 255, 256, 4094, 4095} {
		l = append(l, api.Leaf{Number: number, Kind: 2, Digest: digest, Index: index}, api.Leaf{Number: number, Kind: 2, Digest: digest, Tags: []api.Posting{}, Index: index}, entry(number))
		for _, prev := range []int{0, number / 2, number} {
			for _, n := range []int{1, 2, 11, 12} {
				l = append(l, entry(number, postings(n, prev)...))
			}
		}
		l = append(l, entry(number, api.Posting{Tag: thirtyTwo(0), Prev: number}, api.Posting{Tag: thirtyTwo(0x7f)}, api.Posting{Tag: thirtyTwo(0x80), Prev: number}, api.Posting{Tag: thirtyTwo(0xff)}))
		l = append(l, entry(number, api.Posting{Tag: almost + "\x00"}, api.Posting{Tag: almost + "\x01"}, api.Posting{Tag: almost + "\xff"}))
		l = append(l, api.Leaf{Number: number, Kind: 1, Digest: thirtyTwo(0), Index: thirtyTwo(0xff)}, api.Leaf{Number: number, Kind: 1, Digest: "\x08\x09" + digest[2:], Index: index[2:] + "\x00\x00"})
	}
	return l
}

// ill are leaves of which none may be.
func ill() []api.Leaf {
	one := api.Posting{Tag: thirtyTwo('a')}
	l := []api.Leaf{{}, {Kind: 1}, {Kind: 2}, {Number: 5, Digest: digest, Index: index}}
	for _, number := range []int{-1, 4096, 4097, math.MinInt, math.MaxInt, api.MaxNum} {
		l = append(l, entry(number), entry(number, one), api.Leaf{Number: number, Kind: 2, Digest: digest, Index: index})
	}
	for _, kind := range []int{0, 3, -1, 257, math.MinInt, math.MaxInt} {
		l = append(l, api.Leaf{Number: 5, Kind: kind, Digest: digest, Index: index}, api.Leaf{Number: 5, Kind: kind, Digest: digest, Tags: postings(1, 0), Index: index})
	}
	for _, kind := range []int{1, 2} {
		for _, s := range []string{"", "d", digest[1:], digest + "d", digest + "\x00", digest + digest, strings.Repeat(digest, 3000)} {
			l = append(l, api.Leaf{Number: 5, Kind: kind, Digest: s, Index: index}, api.Leaf{Number: 5, Kind: kind, Digest: digest, Index: s})
		}
	}
	for _, n := range []int{1, 2, 12, 13} {
		l = append(l, api.Leaf{Number: 5, Kind: 2, Digest: digest, Tags: postings(n, 0), Index: index})
	}
	for _, number := range []int{0, 5, 4095} {
		for _, prev := range []int{-1, number + 1, math.MinInt, math.MaxInt, api.MaxNum} {
			last := append(postings(11, number), api.Posting{Tag: thirtyTwo('z'), Prev: prev})
			l = append(l, entry(number, api.Posting{Tag: one.Tag, Prev: prev}), entry(number, last...))
		}
		for _, tag := range []string{"", "a", thirtyTwo('z')[1:], thirtyTwo('z') + "z"} {
			l = append(l, entry(number, api.Posting{Tag: tag}), entry(number, one, api.Posting{Tag: tag}))
		}
		l = append(l, entry(number, postings(13, 0)...), entry(number, postings(26, 0)...), entry(number, make([]api.Posting, 1)...), entry(number, make([]api.Posting, 13)...))
		swapped := postings(12, 0)
		swapped[10], swapped[11] = swapped[11], swapped[10]
		l = append(l, entry(number, one, one), entry(number, one, api.Posting{Tag: one.Tag, Prev: number}), entry(number, api.Posting{Tag: thirtyTwo('b')}, one), entry(number, api.Posting{Tag: thirtyTwo(0x80)}, api.Posting{Tag: thirtyTwo(0x7f)}), entry(number, swapped...))
	}
	return l
}

// writable tells whether all numbers of a leaf are such that it has bytes, though it may not be.
func writable(l api.Leaf) bool {
	ok := l.Number >= 0 && l.Kind >= 0 && l.Number <= api.MaxNum && l.Kind <= api.MaxNum
	for _, p := range l.Tags {
		ok = ok && p.Prev >= 0 && p.Prev <= api.MaxNum
	}
	return ok
}

// like is a leaf that shares nothing with l.
func like(l api.Leaf) api.Leaf {
	m := api.Leaf{Number: l.Number, Kind: l.Kind, Digest: strings.Clone(l.Digest), Index: strings.Clone(l.Index)}
	for _, p := range l.Tags {
		m.Tags = append(m.Tags, api.Posting{Tag: strings.Clone(p.Tag), Prev: p.Prev})
	}
	return m
}

// zero asks whether a leaf is none.
func zero(l api.Leaf) bool {
	return l.Number == 0 && l.Kind == 0 && l.Digest == "" && len(l.Tags) == 0 && l.Index == ""
}

// 17.1, 17.3: which leaves may be, their bytes, and that they are read as they were.
func TestText(t *testing.T) {
	for _, l := range leaves() {
		was := like(l)
		if !leaf.Check(l) {
			t.Errorf("%v may not be", l)
		}
		s := leaf.Text(l)
		if s != bytesOf(l) {
			t.Errorf("Text of %v: %x", l, s)
		}
		m, e := leaf.Read(s)
		if e != api.OK || !leaf.Same(l, m) || m.Number != l.Number || m.Kind != l.Kind || m.Digest != l.Digest || !slices.Equal(m.Tags, l.Tags) || m.Index != l.Index {
			t.Errorf("%v is read as %v, %v", l, m, e)
		}
		if !leaf.Same(l, was) {
			t.Errorf("%v was changed", was)
		}
	}
}

// 17.1: which leaves may not be, that they have no bytes, and that those which they would have are not read.
func TestIll(t *testing.T) {
	for _, l := range ill() {
		if leaf.Check(l) {
			t.Errorf("%.300v may be", l)
		}
		if s := leaf.Text(l); s != "" {
			t.Errorf("Text of %.300v: %.100x", l, s)
		}
		if writable(l) {
			refused(t, bytesOf(l))
		}
	}
}

// refused asks whether bytes are those of no leaf.
func refused(t *testing.T, s string) {
	t.Helper()
	if l, e := leaf.Read(s); !zero(l) || e != api.ErrForm {
		t.Errorf("Read of %.100x: %v, %v", s, l, e)
	}
}

// 17.1, 17.3, P7: bytes of no leaf that may be: lists of other things, other ways to write, pieces, and more.
func TestReadOfWrong(t *testing.T) {
	a, b := thirtyTwo('a'), thirtyTwo('b')
	s := leaf.Text(entry(5, api.Posting{Tag: a, Prev: 5}, api.Posting{Tag: b}))
	for i := range len(s) {
		refused(t, s[:i])
		refused(t, s[i+1:])
	}
	tags := list(list(text(a), num(5)), list(text(b), num(0)))
	with := func(tags string) string { return list(num(5), num(1), text(digest), tags, text(index)) }
	if with(tags) != s {
		t.Fatalf("Text: %x", s)
	}
	for _, x := range []string{
		"", "\x00", "x", s + "\x00", s + "x", s + s, "\x00" + s, list(), list(s), text(s), num(5), strings.Repeat("x", 70000),
		list(num(5), num(1), text(digest), tags), list(num(1), text(digest), tags, text(index)), list(num(5), num(1), text(digest), tags, text(index), num(0)), list(num(5), num(1), text(digest), tags, text(index), list()),
		list(num(5), num(1), tags, text(digest), text(index)), list(num(5), num(1), text(digest), text(index), tags), list(num(1), num(5), text(digest), tags, text(index)), list(text(digest), num(5), num(1), tags, text(index)),
		list(text("5"), num(1), text(digest), tags, text(index)), list(num(5), text("1"), text(digest), tags, text(index)), list(num(5), num(1), num(5), tags, text(index)), list(num(5), num(1), text(digest), tags, num(5)), list(num(5), num(1), text(digest), tags, list()), list(list(), num(1), text(digest), tags, text(index)),
		with(num(0)), with(text("")), with(text(a)), with(list(num(0))), with(list(text(a))), with(list(text(a), num(5))), with(list(list())), with(list(list(text(a)))), with(list(list(num(5)))), with(list(list(num(5), text(a)))), with(list(list(text(a), text("\x05")))), with(list(list(text(a), num(5), num(0)))), with(list(list(text(a), list()))), with(list(list(list(), num(5)))), with(list(list(text(a), num(5)), num(0))), with(list(tags)),
		with(list(list(text(a[1:]), num(5)))), with(list(list(text(a+"a"), num(5)))), with(list(list(text(a), num(6)))), with(list(list(text(a), num(api.MaxNum)))), with(list(list(text(a), num(5)), list(text(a), num(5)))), with(list(list(text(b), num(0)), list(text(a), num(5)))),
		"\x09\x02\x00\x05" + s[3:], "\x09\x01\x05\x02\x00\x05" + s[5:], "\x09\x01\x05\x01\x05\x02\x00\x01" + s[7:], list("\x01\x00", num(1), text(digest), list(), text(index)), list(num(5), num(1), "\x08\x02\x00\x20"+digest, tags, text(index)), with("\x09\x02\x00\x02" + tags[3:]), with(list(list(text(a), "\x02\x00\x05"))), with(list(list(text(a), "\x01\x00"))),
		list(num(5), num(2), text(digest), tags, text(index)), list(num(4096), num(1), text(digest), tags, text(index)), list(num(5), num(3), text(digest), list(), text(index)), list(num(5), num(0), text(digest), list(), text(index)),
		with(list(slices.Repeat([]string{list(text(a), num(5))}, 1024)...)), with(list(slices.Repeat([]string{num(0)}, 1024)...)),
	} {
		refused(t, x)
	}
}

// 17.1: leaves of which anything is another one are not the same; those that may not be are held against each other, too.
func TestSame(t *testing.T) {
	all := append(leaves(), ill()...)
	for i, a := range all {
		for j, b := range all {
			want := a.Number == b.Number && a.Kind == b.Kind && a.Digest == b.Digest && slices.Equal(a.Tags, b.Tags) && a.Index == b.Index
			if leaf.Same(a, b) != want || i == j && !want {
				t.Fatalf("Same of %.300v and %.300v: %v", a, b, !want)
			}
		}
		if !leaf.Same(a, like(a)) {
			t.Fatalf("%.300v is not the same as it is", a)
		}
	}
	l := entry(5, postings(3, 2)...)
	for i, f := range []func(*api.Leaf){
		func(l *api.Leaf) { l.Number = 4 }, func(l *api.Leaf) { l.Kind = 2 }, func(l *api.Leaf) { l.Digest = index }, func(l *api.Leaf) { l.Index = digest }, func(l *api.Leaf) { l.Digest, l.Index = l.Index, l.Digest },
		func(l *api.Leaf) { l.Tags = nil }, func(l *api.Leaf) { l.Tags = l.Tags[:2] }, func(l *api.Leaf) { l.Tags = l.Tags[1:] }, func(l *api.Leaf) { l.Tags = append(l.Tags, api.Posting{}) },
		func(l *api.Leaf) { l.Tags[2].Prev = 1 }, func(l *api.Leaf) { l.Tags[2].Tag = thirtyTwo('z') }, func(l *api.Leaf) { l.Tags[0], l.Tags[1] = l.Tags[1], l.Tags[0] }, func(l *api.Leaf) { l.Tags[0].Tag += "\x00" },
	} {
		m := like(l)
		if f(&m); leaf.Same(l, m) || leaf.Same(m, l) {
			t.Errorf("leaf %d is the same", i)
		}
	}
	if none := entry(5); !leaf.Same(none, api.Leaf{Number: 5, Kind: 1, Digest: digest, Tags: []api.Posting{}, Index: index}) || !leaf.Same(api.Leaf{}, api.Leaf{Tags: []api.Posting{}}) {
		t.Error("no tags are not the same as no tags")
	}
}

// 17.2: the document's example, tags at all places, those that are none's, and leaves that may not be.
func TestFind(t *testing.T) {
	ask := func(l api.Leaf, tag string, want int, there bool) {
		t.Helper()
		if prev, is := leaf.Find(l, tag); prev != want || is != there {
			t.Errorf("Find of %.40q: %d, %v", tag, prev, is)
		}
	}
	ask(entry(3, api.Posting{Tag: "t", Prev: 2}), "t", 2, true)
	l := entry(4095)
	for i := range 12 {
		l.Tags = append(l.Tags, api.Posting{Tag: thirtyTwo(byte('a' + i)), Prev: 4095 - 100*i})
	}
	l.Tags[7].Prev = 0
	for i, p := range l.Tags {
		ask(l, thirtyTwo(byte('a'+i)), p.Prev, true)
	}
	for _, tag := range []string{"", "a", thirtyTwo('a')[1:], thirtyTwo('a') + "a", thirtyTwo('m'), thirtyTwo('A'), digest[1:], index} {
		ask(l, tag, 0, false)
	}
	ask(entry(5), thirtyTwo('a'), 0, false)
	ask(api.Leaf{}, "", 0, false)
	ask(entry(5, make([]api.Posting, 13)...), "", 0, true)
	ask(api.Leaf{Tags: []api.Posting{{Tag: "b", Prev: -7}, {Tag: "a", Prev: 1}, {Tag: "a", Prev: 2}}}, "a", 1, true)
	ask(api.Leaf{Tags: []api.Posting{{Tag: "b", Prev: -7}, {Tag: "a", Prev: 1}, {Tag: "a", Prev: 2}}}, "b", -7, true)
}

// 17.3, P7: whatever is read, is written as it stood there; of all else there is an error.
func TestReadOfAnyBytes(t *testing.T) {
	r := rand.New(rand.NewSource(1))
	s, read := leaf.Text(entry(5, postings(3, 2)...)), 0
	for range 60000 {
		b := []byte(s)
		for range 1 + r.Intn(2) {
			b[r.Intn(len(b))] = byte(r.Intn(256))
		}
		l, e := leaf.Read(string(b))
		if e == api.OK {
			read++
		}
		if e == api.OK && (!leaf.Check(l) || leaf.Text(l) != string(b) || bytesOf(l) != string(b)) || e != api.OK && (e != api.ErrForm || !zero(l)) {
			t.Fatalf("Read of %x: %v, %v", b, l, e)
		}
	}
	if read == 0 {
		t.Error("nothing was read")
	}
}

// R3: what is read is no piece of the bytes, nor does it share a list with what is read again.
func TestNoMemoryIsShared(t *testing.T) {
	s := leaf.Text(entry(5, postings(3, 2)...))
	l, _ := leaf.Read(s)
	for _, x := range []string{l.Digest, l.Index, l.Tags[0].Tag, l.Tags[2].Tag} {
		if at := strings.Index(s, x); unsafe.StringData(x) == unsafe.StringData(s[at:]) {
			t.Error("Read shares the bytes' memory")
		}
	}
	l.Tags[0] = api.Posting{}
	if m, _ := leaf.Read(s); m.Tags[0].Prev != 2 {
		t.Error("leaves that are read share a list")
	}
}
