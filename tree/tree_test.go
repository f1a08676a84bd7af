package tree_test

import (
	"encoding/hex"
	"math"
	"math/rand"
	"slices"
	"strings"
	"testing"
	"unsafe"

	"lockbox/api"
	"lockbox/digest"
	"lockbox/tree"
)

// 13.1: the document's example.
func TestExample(t *testing.T) {
	a, b, c := tree.Leaf("a"), tree.Leaf("b"), tree.Leaf("c")
	l := []string{a, b, c}
	if w, e := tree.Way(l, 2); e != api.OK || !slices.Equal(w, []string{tree.Node(a, b)}) {
		t.Errorf("the way of c: %x, %v", w, e)
	}
	if w, e := tree.Bridge(l, 2); e != api.OK || !slices.Equal(w, []string{c}) {
		t.Errorf("the bridge from 2: %x, %v", w, e)
	}
	if w, e := tree.Bridge(l, 1); e != api.OK || !slices.Equal(w, []string{b, c}) {
		t.Errorf("the bridge from 1: %x, %v", w, e)
	}
}

// 13.1: the roots of eight well known leaves, as other makers of the tree of RFC 6962 tell them.
func TestKnownRoots(t *testing.T) {
	known := []string{"", "\x00", "\x10", "\x20\x21", "\x30\x31", "\x40\x41\x42\x43", "\x50\x51\x52\x53\x54\x55\x56\x57", "\x60\x61\x62\x63\x64\x65\x66\x67\x68\x69\x6a\x6b\x6c\x6d\x6e\x6f"}
	var l []string
	var p tree.Peaks
	for n, digits := range []string{
		"e3b0c44298fc1c149afbf4c8996fb92427ae41e4649b934ca495991b7852b855",
		"6e340b9cffb37a989ca544e6bb780a2c78901d3fb33738768511a30617afa01d",
		"fac54203e7cc696cf0dfcb42c92a1d9dbaf70ad9e621f4bd8d98662f00e3c125",
		"aeb6bcfe274b70a14fb067a5e5578264db0fa9b51af5e0ba159158f329e06e77",
		"d37ee418976dd95753c1c73862b9398fa2a2cf9b4ff0fdfe8b30cd95209614b7",
		"4e3bbb1f7b478dcfe71fb631631519a3bca12c9aefca1612bfce4c13a86264d4",
		"76e67dadbcdf1e10e1b74ddc608abd2f98dfb16fbce75277b5232a127f2087ef",
		"ddb89be403809e325750d3d263cd78929c2942b7942a34b77e122c9594a74c8c",
		"5dc9da79a70659a9ad559cb701ded9a2ab9d823aad2f4960cfe370eff4604328",
	} {
		if n > 0 {
			l = append(l, tree.Leaf(known[n-1]))
			p = p.With(l[n-1])
		}
		if hex.EncodeToString([]byte(tree.Root(l))) != digits || hex.EncodeToString([]byte(p.Root())) != digits {
			t.Errorf("the root of %d: %x, %x, not %s", n, tree.Root(l), p.Root(), digits)
		}
	}
}

// 13.1: digests of leaves and nodes, of any texts.
func TestLeafAndNode(t *testing.T) {
	long := strings.Repeat("l", 70000)
	for _, s := range []string{"", "a", "\x00", "\x01", "\x00a", strings.Repeat("\xff", 32), long} {
		if tree.Leaf(s) != sum("\x00"+s) {
			t.Errorf("Leaf of %d bytes", len(s))
		}
		for _, b := range []string{"", "b", "\x01", s, long} {
			if tree.Node(s, b) != sum("\x01"+s+b) {
				t.Errorf("Node of %d and %d bytes", len(s), len(b))
			}
		}
	}
	if tree.Node("a", "b") == tree.Node("b", "a") || tree.Node("", "a") == tree.Leaf("a") {
		t.Error("Node does not heed the order, or is a leaf's")
	}
}

// 13.1: roots of any number of digests, of any texts.
func TestRoot(t *testing.T) {
	if tree.Root(nil) != digest.Sum("") || tree.Root([]string{}) != digest.Sum("") {
		t.Error("the root of none")
	}
	_, all := leaves(5000)
	for n := range 300 {
		l := roomy(all[:n])
		if tree.Root(l) != rootOf(all[:n]) {
			t.Fatalf("Root of %d", n)
		}
		untouched(t, l, all[:n])
	}
	for _, n := range []int{511, 512, 513, 2047, 2048, 2049, 4095, 4096, 4097, 5000} {
		if tree.Root(all[:n]) != rootOf(all[:n]) {
			t.Errorf("Root of %d", n)
		}
	}
	for _, l := range [][]string{{""}, {"", ""}, {"a"}, {"a", "", "b"}, {"same", "same", "same"}, {"\x00", "\x01", strings.Repeat("x", 70000)}} {
		if tree.Root(l) != rootOf(l) {
			t.Errorf("Root of %.20q", l)
		}
	}
}

// R3: the root of one is no piece of what was handed in, nor is a way's, a bridge's or a twin's digest.
func TestNoMemoryIsShared(t *testing.T) {
	_, l := leaves(3)
	way, _ := tree.Way(l, 0)
	bridge, _ := tree.Bridge(l, 1)
	alone, _, _ := tree.Climb(1, 0, l[0], nil)
	same, _, _ := tree.Cross(3, 3, l[0], nil)
	for i, s := range []string{tree.Root(l[:1]), alone, same, tree.Peaks{}.With(l[0]).Root()} {
		if s != l[0] || unsafe.StringData(s) == unsafe.StringData(l[0]) {
			t.Errorf("%d: memory is shared", i)
		}
	}
	for i, s := range []string{way[0], bridge[0]} {
		if s != l[1] || unsafe.StringData(s) == unsafe.StringData(l[1]) {
			t.Errorf("%d of a list: memory is shared", i)
		}
	}
	p := tree.Peaks{}.With(l[0])
	if unsafe.StringData(p.Root()) == unsafe.StringData(p.Root()) {
		t.Error("two answers share memory")
	}
}

// 13.1: the ways of all places among few digests, and of some among many.
func TestWay(t *testing.T) {
	_, all := leaves(api.MaxLeaves)
	ask := func(n, i int) {
		l := roomy(all[:n])
		w, e := tree.Way(l, i)
		if e != api.OK || !slices.Equal(w, wayOf(all[:n], i)) {
			t.Fatalf("Way of %d among %d: %d digests, %v", i, n, len(w), e)
		}
		untouched(t, l, all[:n])
	}
	for n := range 66 {
		for i := range n {
			ask(n, i)
		}
	}
	for _, i := range []int{0, 1, 2, 1023, 2047, 2048, 2049, 4093, 4094} {
		ask(4095, i)
		ask(4096, i)
	}
	ask(4096, 4095)
	ask(2049, 2048)
}

// 13.1: places that there aren't, and too many digests, whatever the place.
func TestWayOfWrong(t *testing.T) {
	_, all := leaves(api.MaxLeaves + 1)
	for _, c := range []struct {
		n, i int
		want api.Errno
	}{
		{0, 0, api.ErrArg}, {0, -1, api.ErrArg}, {0, 1, api.ErrArg}, {1, 1, api.ErrArg}, {1, -1, api.ErrArg}, {7, 7, api.ErrArg}, {7, -1, api.ErrArg}, {7, math.MaxInt, api.ErrArg}, {7, math.MinInt, api.ErrArg}, {4096, 4096, api.ErrArg},
		{4097, 0, api.ErrLong}, {4097, 4096, api.ErrLong}, {4097, 4097, api.ErrLong}, {4097, -1, api.ErrLong},
	} {
		if w, e := tree.Way(all[:c.n], c.i); len(w) != 0 || e != c.want {
			t.Errorf("Way of %d among %d: %d digests, %v, not %v", c.i, c.n, len(w), e, c.want)
		}
	}
}

// 13.1: the bridges from all numbers to few digests, and from some to many.
func TestBridge(t *testing.T) {
	_, all := leaves(api.MaxLeaves)
	ask := func(m, n int) {
		l := roomy(all[:n])
		b, e := tree.Bridge(l, m)
		if e != api.OK || !slices.Equal(b, bridgeOf(all[:n], m, true)) {
			t.Fatalf("Bridge from %d to %d: %d digests, %v", m, n, len(b), e)
		}
		untouched(t, l, all[:n])
	}
	for n := range 66 {
		for m := range n {
			ask(m+1, n)
		}
		for _, m := range []int{0, n} {
			if b, e := tree.Bridge(all[:n], m); len(b) != 0 || e != api.OK {
				t.Errorf("Bridge from %d to %d: %d digests, %v", m, n, len(b), e)
			}
		}
	}
	for _, m := range []int{1, 2, 3, 1023, 1024, 2047, 2048, 2049, 4093, 4094, 4095} {
		ask(m, 4095)
		ask(m, 4096)
	}
}

// 13.1: numbers that no bridge is from, and too many digests, whatever the number.
func TestBridgeOfWrong(t *testing.T) {
	_, all := leaves(api.MaxLeaves + 1)
	for _, c := range []struct {
		n, m int
		want api.Errno
	}{
		{0, 1, api.ErrArg}, {0, -1, api.ErrArg}, {1, 2, api.ErrArg}, {7, 8, api.ErrArg}, {7, -1, api.ErrArg}, {7, math.MaxInt, api.ErrArg}, {7, math.MinInt, api.ErrArg}, {4096, 4097, api.ErrArg},
		{4097, 0, api.ErrLong}, {4097, 1, api.ErrLong}, {4097, 4097, api.ErrLong}, {4097, 4098, api.ErrLong}, {4097, -1, api.ErrLong},
	} {
		if b, e := tree.Bridge(all[:c.n], c.m); len(b) != 0 || e != c.want {
			t.Errorf("Bridge from %d to %d: %d digests, %v, not %v", c.m, c.n, len(b), e, c.want)
		}
	}
}

// 13.1: peaks have the root and the size of what they were made of, also beyond a log's leaves.
func TestPeaks(t *testing.T) {
	var p tree.Peaks
	if p.Root() != digest.Sum("") || p.Size() != 0 {
		t.Error("the zero Peaks")
	}
	_, all := leaves(4200)
	for i, d := range all {
		was := p
		p = p.With(d)
		if p.Size() != i+1 || was.Size() != i {
			t.Fatalf("Size behind %d: %d, and %d", i+1, p.Size(), was.Size())
		}
		if (i < 400 || i > 4090) && (p.Root() != rootOf(all[:i+1]) || was.Root() != rootOf(all[:i])) {
			t.Fatalf("Root behind %d", i+1)
		}
	}
	for _, l := range [][]string{{""}, {"a", "", "b"}, {"same", "same", "same"}} {
		var p tree.Peaks
		for _, d := range l {
			p = p.With(d)
		}
		if p.Root() != rootOf(l) {
			t.Errorf("Root of %q", l)
		}
	}
}

// 13.1: from any Peaks several go on, each for itself, and it stays as it is.
func TestPeaksStay(t *testing.T) {
	r := rand.New(rand.NewSource(1))
	type grown struct {
		p tree.Peaks
		l []string
	}
	all := []grown{{}}
	for range 3000 {
		from := all[r.Intn(len(all))]
		if r.Intn(2) == 0 {
			from = all[len(all)-1]
		}
		d := sum(string([]byte{byte(r.Intn(256)), byte(r.Intn(256))}))
		all = append(all, grown{from.p.With(d), append(slices.Clone(from.l), d)})
	}
	for _, x := range all {
		if x.p.Size() != len(x.l) || x.p.Root() != rootOf(x.l) {
			t.Fatalf("peaks of %d: size %d, or another root", len(x.l), x.p.Size())
		}
	}
}

// textsOf are the texts of the nodes of a root.
func textsOf(l []string) []string {
	if len(l) < 2 {
		return nil
	}
	k := power(len(l))
	return append(append(textsOf(l[:k]), textsOf(l[k:])...), "\x01"+rootOf(l[:k])+rootOf(l[k:]))
}

// 13.4: the texts of a root: the leaves', in order, and then those of nodes, each as often as it is summed.
func TestTexts(t *testing.T) {
	if l := tree.Texts(nil); len(l) != 0 {
		t.Errorf("Texts of no leaves: %q", l)
	}
	few, _ := leaves(70)
	many, _ := leaves(4100)
	lists := [][]string{{""}, {"", ""}, {"a", "a", "a", "a"}, {"\x00", "\x01"}, many[:4096], many}
	for n := range len(few) {
		lists = append(lists, few[:n+1])
	}
	for _, l := range lists {
		handed := roomy(l)
		got := tree.Texts(handed)
		untouched(t, handed, l)
		if len(got) != 2*len(l)-1 {
			t.Fatalf("Texts of %d leaves: %d", len(l), len(got))
		}
		var digests []string
		for i, s := range l {
			digests = append(digests, sum("\x00"+s))
			if got[i] != "\x00"+s {
				t.Fatalf("Texts of %d leaves: the leaf %d is %.20q", len(l), i, got[i])
			}
		}
		nodes, want := slices.Sorted(slices.Values(got[len(l):])), slices.Sorted(slices.Values(textsOf(digests)))
		if !slices.Equal(nodes, want) {
			t.Fatalf("Texts of %d leaves: other nodes", len(l))
		}
	}
}

// 13.4: texts among which there is no twin: few are, and the same ones again.
func TestTwinOfNone(t *testing.T) {
	few, digests := leaves(200)
	for _, l := range [][]string{nil, {}, {""}, {"", ""}, {"a"}, {"a", "b"}, {"a", "b", "a"}, {"b", "a", "a", "b"}, {"a", "\x00a", "a\x00"}, tree.Texts(few), append(tree.Texts(few), few...), append(digests, digests...)} {
		if a, b, is := tree.Twin(l); a != "" || b != "" || is {
			t.Errorf("Twin of %d texts: %q, %q, %v", len(l), a, b, is)
		}
	}
}
