package ledger_test

import (
	"math"
	"reflect"
	"slices"
	"strings"
	"testing"
	"unsafe"

	"lockbox/api"
	"lockbox/digest"
	"lockbox/disk"
	"lockbox/index"
	"lockbox/leaf"
	"lockbox/ledger"
	"lockbox/query"
	"lockbox/segs"
	"lockbox/tree"
)

// 23.1: the document's example.
func TestExample(t *testing.T) {
	var m maker
	y := m.entry("y")
	has(t, open(t, holding(t, "Bx", "By", "L"+y.text)), []entry{y}, 1)
}

// 23.1, 23.2: what is appended is there, as its records, and opened again it is the same.
func TestAppend(t *testing.T) {
	d := disk.New(12, 1024)
	g := open(t, d)
	has(t, g, nil, 0)
	l := work()
	for i := range l {
		put(t, g, l[i:i+1])
		if g.Len() != i+1 || g.Sure() > i {
			t.Fatalf("entry %d: Len %d, Sure %d", i, g.Len(), g.Sure())
		}
		if e := g.Sync(); e != api.OK {
			t.Fatal(e)
		}
		has(t, g, l[:i+1], i+1)
		if !slices.Equal(stored(t, d), recordsOf(l[:i+1])) {
			t.Fatalf("records: %q", stored(t, d))
		}
		c := d.Clone()
		c.Fail(0, 0)
		c.Up()
		has(t, open(t, c), l[:i+1], i+1)
	}
	again := open(t, d)
	has(t, again, l, len(l))
	if n, e := again.Append(l[0].text, l[0].blob); n != 0 || e != api.ErrProof {
		t.Errorf("Append of what is there: %d, %v", n, e)
	}
}

// 23.1: a ledger that was opened again goes on.
func TestGoesOn(t *testing.T) {
	d := disk.New(12, 1024)
	l := work()
	for i := range l {
		g := open(t, d)
		has(t, g, l[:i], i)
		put(t, g, l[i:i+1])
	}
	has(t, open(t, d), l, len(l))
}

// 23.1: records of blobs that no leaf follows, or that another one follows, are none's.
func TestLoneBlobs(t *testing.T) {
	l := work()
	r := recordsOf(l)
	long := "B" + strings.Repeat("b", 880)
	for _, records := range [][]string{{"Bx"}, {"Bx", "By"}, {long, "B\x00"}} {
		has(t, open(t, holding(t, records...)), nil, 0)
	}
	records := slices.Concat([]string{"Bx", "By"}, r[:2], []string{long}, r[2:8], []string{r[8], r[8]}, r[8:], []string{"Bz", long})
	d := holding(t, records...)
	g := open(t, d)
	has(t, g, l, len(l))
	var m maker
	for _, x := range l {
		y, _ := leaf.Read(x.text)
		var tags []string
		for _, p := range y.Tags {
			tags = append(tags, p.Tag)
		}
		m.leaf("", tags...)
	}
	x := m.entry("more", tag(1))
	put(t, g, []entry{x})
	has(t, g, append(l, x), len(l))
	has(t, open(t, d), append(l, x), len(l)+1)
	if s := stored(t, d); !slices.Equal(s, append(records, x.records()...)) {
		t.Errorf("records: %q", s)
	}
}

// ill asks whether a disk with some records is no ledger's, and stays as it is, with what waits, and what is torn.
func ill(t *testing.T, records ...string) {
	t.Helper()
	clean := holding(t, records...)
	torn := clean.Clone()
	torn.Append(1+len(segments(t, clean)), "\xe5\x00")
	torn.Append(0, "\xe5")
	for _, d := range []*disk.Disk{clean, torn} {
		was := toldDisk(t, d)
		g, e := ledger.Open(d)
		if g != nil || e != api.ErrForm {
			t.Errorf("Open of %q: %v", records, e)
		}
		if !slices.Equal(toldDisk(t, d), was) {
			t.Errorf("Open of %q changes the disk", records)
		}
	}
}

// segments are those of a disk's store.
func segments(t *testing.T, d *disk.Disk) []int {
	t.Helper()
	s, e := segs.Open(d.Clone())
	if e != api.OK {
		t.Fatal(e)
	}
	return s.Segments()
}

// 23.1: records that are no ledger's.
func TestOpenOfIllRecords(t *testing.T) {
	l := work()
	r := recordsOf(l)
	for _, x := range []string{"x", "b", "l", "bx", "l" + l[1].text, "\x00", "\xff", "A", "C", "K", "M", " B", " L", "B", "B" + strings.Repeat("b", 881), "BB" + strings.Repeat("b", 898), l[1].text, "B\x00\x00" + strings.Repeat("b", 890)} {
		ill(t, x)
		ill(t, "Bx", x)
		ill(t, r[0], x, r[1])
		ill(t, append(slices.Clone(r[:4]), x)...)
		ill(t, slices.Concat(r[:4], []string{x}, r[4:])...)
	}
	for _, records := range [][]string{
		{r[1]}, {"L"}, {"Lx"}, {r[0], r[1], r[1]}, {r[0], r[1], r[3]}, {r[0], r[1], r[3], r[2]}, {r[1], r[0]}, {r[1], r[0], r[1]}, {r[0], r[1], "L"}, {r[0], r[1], "L", r[2], r[3]}, // leaves without a blob right ahead
		{r[0], "L"}, {r[0], "Lx"}, {r[0], r[1] + "\x00"}, {r[0], r[1][:len(r[1])-1]}, {r[0], "L" + r[1]}, {r[0], r[1], r[0], "Lx", r[2], r[3]}, // leaves that are none
		{r[2], r[3]}, {r[0], r[1], r[0], r[1]}, {r[0], r[1], r[4], r[5]}, {r[0], r[1], r[4], r[5], r[2], r[3]}, // leaves that are not the next ones
		{"Bx", r[3]}, {r[0], "Bx", r[1], "Bx", r[3]}, {"By", r[1]}, {r[0], r[1], "Bx", r[3]}, {r[0], "Bz", r[1]}, {r[0], r[1], r[2], r[2], r[3], "Bzz", r[5]}, {"B\x00x", r[1]}, // blobs that are other leaves'
	} {
		ill(t, records...)
	}
	var m maker
	none := m.entry("") // a leaf of the empty text, which is no blob
	ill(t, "L"+none.text)
	ill(t, "B", "L"+none.text)
	m = maker{}
	two := recordsOf([]entry{m.entry("x"), m.entry("x"), m.entry("x")})
	ill(t, two[0], two[1], two[3]) // one blob does not do for two leaves
	ill(t, two[0], two[1], two[3], two[4], two[5])
}

// 23.1: leaves that make no well made log.
func TestOpenOfIllLogs(t *testing.T) {
	var m maker
	m.leaf("x", tag(1))
	was := m
	two := m.leaf("y", tag(1), tag(2))
	first := entry{leaf.Text((&maker{}).leaf("x", tag(1))), "x"}
	good := entry{leaf.Text(two), "y"}
	has(t, open(t, holding(t, recordsOf([]entry{first, good})...)), []entry{first, good}, 2)
	for _, change := range []func(*api.Leaf){
		func(l *api.Leaf) { l.Number, l.Tags[0].Prev = 0, 0 }, func(l *api.Leaf) { l.Number = 2 },
		func(l *api.Leaf) { l.Digest = digest.Sum("x") },
		func(l *api.Leaf) { l.Tags[0].Prev = 0 }, func(l *api.Leaf) { l.Tags[1].Prev = 1 },
		func(l *api.Leaf) { l.Tags = l.Tags[:1] }, func(l *api.Leaf) { l.Tags = nil }, func(l *api.Leaf) { l.Tags[1].Tag = tag(3) },
		func(l *api.Leaf) { l.Index = digest.Sum("") }, func(l *api.Leaf) { l.Index = was.x.Root() }, func(l *api.Leaf) { l.Index = index.Index{}.Root() },
		func(l *api.Leaf) { l.Tags, l.Kind = nil, api.LeafRequest },
	} {
		x := two
		x.Tags = slices.Clone(two.Tags)
		change(&x)
		text := leaf.Text(x)
		if text == "" {
			t.Fatalf("a leaf that may not be: %v", x)
		}
		ill(t, recordsOf([]entry{first, {text, "y"}})...)
		want := api.ErrProof
		if x.Digest != two.Digest {
			want = api.ErrSum
		}
		g := open(t, holding(t, first.records()...))
		if n, e := g.Append(text, "y"); n != 0 || e != want {
			t.Errorf("Append of %v: %d, %v", x, n, e)
		}
		has(t, g, []entry{first}, 1)
		put(t, g, []entry{good})
	}
}

// 23.1: the store's error.
func TestOpenOfWrongDisk(t *testing.T) {
	junk := disk.New(3, 1024)
	junk.Append(1, "junk")
	down := disk.New(3, 1024)
	down.Fail(0, 0)
	worn := disk.New(3, 1024)
	worn.Append(0, wornList(t))
	for _, c := range []struct {
		d    *disk.Disk
		want api.Errno
	}{{nil, api.ErrDown}, {down, api.ErrDown}, {disk.New(2, 1024), api.ErrArg}, {disk.New(3, 1023), api.ErrArg}, {junk, api.ErrForm}, {worn, api.ErrFull}} {
		if g, e := ledger.Open(c.d); g != nil || e != c.want {
			t.Errorf("Open: %v, not %v", e, c.want)
		}
	}
	if d := disk.New(3, 1024); open(t, d).Len() != 0 || d.Changes() == 0 {
		t.Error("a disk without a store gets none")
	}
}

// 23.1: Append's errors come in order, and change nothing.
func TestAppendErrors(t *testing.T) {
	d := disk.New(12, 1024)
	g := open(t, d)
	l := work()
	put(t, g, l[:3])
	g.Sync()
	put(t, g, l[3:5])
	next := l[5]
	fits := strings.Repeat("\xff", 880)
	long := fits + "\xff"
	far, _ := leaf.Read(l[6].text)
	wasDisk, was := toldDisk(t, d), told(g)
	for i, c := range []struct {
		text, blob string
		want       api.Errno
	}{
		{next.text, "", api.ErrArg}, {next.text, long, api.ErrArg}, {"junk", "", api.ErrArg}, {"", "", api.ErrArg}, {l[0].text, "", api.ErrArg}, {"junk", long, api.ErrArg}, {next.text, strings.Repeat("x", 1<<20), api.ErrArg},
		{"", "x", api.ErrForm}, {"junk", "x", api.ErrForm}, {next.text + "\x00", next.blob, api.ErrForm}, {next.text[1:], next.blob, api.ErrForm}, {next.text[:len(next.text)-1], next.blob, api.ErrForm}, {"L" + next.text, next.blob, api.ErrForm}, {strings.Repeat("\x00", 1<<17), "x", api.ErrForm},
		{next.text, "x", api.ErrSum}, {next.text, "\x00\x00", api.ErrSum}, {l[0].text, "y", api.ErrSum}, {l[6].text, "x", api.ErrSum}, {next.text, fits, api.ErrSum},
		{l[0].text, l[0].blob, api.ErrProof}, {l[4].text, l[4].blob, api.ErrProof}, {l[6].text, l[6].blob, api.ErrProof},
		{leaf.Text(api.Leaf{Number: 5, Kind: api.LeafEntry, Digest: far.Digest, Index: far.Index}), "L", api.ErrProof},
	} {
		if n, e := g.Append(c.text, c.blob); n != 0 || e != c.want {
			t.Errorf("Append %d: %d, %v, not %v", i, n, e, c.want)
		}
	}
	if !slices.Equal(told(g), was) || !slices.Equal(toldDisk(t, d), wasDisk) {
		t.Error("what is refused changes something")
	}
	put(t, g, l[5:])
	if len(fits) != 880 || l[3].blob != fits {
		t.Error("no blob of the greatest length was appended")
	}
	has(t, open(t, d), l, len(l))
}

// 23.2: the next leaf, its postings and root; index.With's error.
func TestNext(t *testing.T) {
	g := open(t, disk.New(12, 1024))
	var m maker
	for _, tags := range [][]string{nil, {tag(1)}, {tag(0), tag(1), tag(5)}, {tag(5)}, {tag(0), tag(1), tag(2), tag(3), tag(4), tag(5), tag(6), tag(7), tag(8), tag(9), tag(10), tag(11)}} {
		was := told(g)
		for range 2 {
			l, e := g.Next(tags)
			c := m
			want := c.leaf("", tags...)
			want.Digest = ""
			if e != api.OK || !leaf.Same(l, want) {
				t.Errorf("Next: %v, %v, not %v", l, e, want)
			}
		}
		if !slices.Equal(told(g), was) {
			t.Error("Next changes something")
		}
		put(t, g, []entry{m.entry("x", tags...)})
		for _, tags := range [][]string{{""}, {"x"}, {tag(1) + "x"}, {tag(2), tag(1)}, {tag(1), tag(1)}, slices.Repeat([]string{tag(1)}, 13), {tag(0), tag(1), tag(2), tag(3), tag(4), tag(5), tag(6), tag(7), tag(8), tag(9), tag(10), tag(11), tag(12)}} {
			if l, e := g.Next(tags); e != api.ErrArg || !reflect.DeepEqual(l, api.Leaf{}) {
				t.Errorf("Next of %q: %v, %v", tags, l, e)
			}
		}
	}
}

// 23.3: root, ways, bridges and answers of all beginnings, and of what is none.
func TestProofs(t *testing.T) {
	g := open(t, disk.New(12, 1024))
	l := work()
	put(t, g, l)
	log := g.Log()
	var digests []string
	for _, text := range log {
		digests = append(digests, tree.Leaf(text))
	}
	places := []int{math.MinInt, -2, -1, 0, 1, 2, 3, 4, 5, 6, 7, 8, 9, math.MaxInt}
	for _, size := range places {
		is := size >= 0 && size <= len(l)
		var mine []string
		if is {
			mine = digests[:size]
		}
		root, e := g.Root(size)
		if is && (e != api.OK || root != tree.Root(mine)) || !is && (e != api.ErrArg || root != "") {
			t.Errorf("Root of %d: %x, %v", size, root, e)
		}
		for _, i := range places {
			way, e := g.Way(size, i)
			want, f := tree.Way(mine, i)
			if e != f || !slices.Equal(way, want) {
				t.Errorf("Way of %d, %d: %x, %v", size, i, way, e)
			}
			bridge, e := g.Bridge(i, size)
			want, f = tree.Bridge(mine, i)
			if !is {
				f = api.ErrArg
			}
			if e != f || f == api.OK && !slices.Equal(bridge, want) || f != api.OK && len(bridge) > 0 {
				t.Errorf("Bridge of %d, %d: %x, %v", i, size, bridge, e)
			}
		}
		for _, x := range []string{tag(0), tag(1), tag(2), tag(3), tag(4), "", "x"} {
			a, e := g.Search(size, x)
			if !is {
				if e != api.ErrArg || !reflect.DeepEqual(a, api.Answer{}) {
					t.Errorf("Search of %d: %v", size, e)
				}
				continue
			}
			want, f := query.Make(log[:size], x)
			if e != f || !reflect.DeepEqual(a, want) {
				t.Errorf("Search of %d: %v, %v", size, a, e)
			}
			if _, f := query.Verify(root, size, x, a); len(x) == 32 && f != api.OK {
				t.Errorf("Search of %d: %v", size, f)
			}
		}
	}
	for _, i := range []int{math.MinInt, -1, 7, 8, math.MaxInt} {
		if s, is := g.Blob(i); s != "" || is {
			t.Errorf("Blob of %d: %q, %v", i, s, is)
		}
	}
}

// 23.2, 23.3: a nil ledger.
func TestNil(t *testing.T) {
	var g *ledger.Ledger
	x := work()[0]
	if n, e := g.Append(x.text, x.blob); n != 0 || e != api.ErrArg {
		t.Errorf("Append: %d, %v", n, e)
	}
	if g.Sync() != api.ErrArg || g.Len() != 0 || g.Sure() != 0 || len(g.Log()) != 0 {
		t.Error("a nil ledger has something")
	}
	if s, is := g.Blob(0); s != "" || is {
		t.Errorf("Blob: %q, %v", s, is)
	}
	if l, e := g.Next(nil); !reflect.DeepEqual(l, api.Leaf{}) || e != api.ErrArg {
		t.Errorf("Next: %v, %v", l, e)
	}
	if s, e := g.Root(0); s != "" || e != api.ErrArg {
		t.Errorf("Root: %q, %v", s, e)
	}
	if l, e := g.Way(0, 0); len(l) > 0 || e != api.ErrArg {
		t.Errorf("Way: %q, %v", l, e)
	}
	if l, e := g.Bridge(0, 0); len(l) > 0 || e != api.ErrArg {
		t.Errorf("Bridge: %q, %v", l, e)
	}
	if a, e := g.Search(0, tag(0)); !reflect.DeepEqual(a, api.Answer{}) || e != api.ErrArg {
		t.Errorf("Search: %v, %v", a, e)
	}
}

// R3: a ledger keeps no text that was handed in, and hands out none that it keeps.
func TestNoMemoryIsShared(t *testing.T) {
	g := open(t, disk.New(12, 1024))
	var m maker
	x := m.entry(strings.Repeat("x", 99), tag(7))
	put(t, g, []entry{x, m.entry("y")})
	same := func(a, b string) bool { return unsafe.StringData(a) == unsafe.StringData(b) }
	if a, b := g.Log(), g.Log(); same(a[0], x.text) || same(a[0], b[0]) || &a[0] == &b[0] {
		t.Error("Log shares memory")
	}
	a, _ := g.Blob(0)
	b, _ := g.Blob(0)
	if same(a, x.blob) || same(a, b) {
		t.Error("Blob shares memory")
	}
	tags := []string{tag(8)}
	l, _ := g.Next(tags)
	k, _ := g.Next(tags)
	if same(l.Tags[0].Tag, tags[0]) || &l.Tags[0] == &k.Tags[0] || same(l.Tags[0].Tag, k.Tags[0].Tag) || same(l.Index, k.Index) {
		t.Error("Next shares memory")
	}
	c, _ := g.Search(2, tag(7))
	e, _ := g.Search(2, tag(7))
	if same(c.Last.Leaf, e.Last.Leaf) || same(c.Hits[0].Leaf, e.Hits[0].Leaf) || &c.Hits[0] == &e.Hits[0] || same(c.Index.Rows[0].Row.Tag, e.Index.Rows[0].Row.Tag) {
		t.Error("Search shares memory")
	}
	l.Tags[0].Prev, c.Hits[0].Leaf = 7, ""
	g.Log()[0] = ""
	if f, _ := g.Search(2, tag(7)); !reflect.DeepEqual(f, e) {
		t.Error("what is answered changes the ledger")
	}
}
