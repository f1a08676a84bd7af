package ledger_test

import (
	"fmt"
	"slices"
	"strings"
	"testing"

	"lockbox/api"
	"lockbox/digest"
	"lockbox/disk"
	"lockbox/index"
	"lockbox/leaf"
	"lockbox/ledger"
	"lockbox/segs"
	"lockbox/tree"
)

// entry is a leaf's text and a blob.
type entry struct{ text, blob string }

// records are an entry's, as the document's words say.
func (x entry) records() []string { return []string{"B" + x.blob, "L" + x.text} }

// recordsOf are those of entries.
func recordsOf(l []entry) []string {
	var records []string
	for _, x := range l {
		records = append(records, x.records()...)
	}
	return records
}

// maker makes the entries of a well made log, one behind the other. A copy of it goes on for itself.
type maker struct {
	x index.Index
	n int
}

// leaf is the next leaf, with tags, of an entry with a blob.
func (m *maker) leaf(blob string, tags ...string) api.Leaf {
	x, postings, e := m.x.With(m.n, tags)
	if e != api.OK {
		panic(e)
	}
	l := api.Leaf{Number: m.n, Kind: api.LeafEntry, Digest: digest.Sum(blob), Tags: postings, Index: x.Root()}
	m.x, m.n = x, m.n+1
	return l
}

// entry is the next entry.
func (m *maker) entry(blob string, tags ...string) entry {
	return entry{leaf.Text(m.leaf(blob, tags...)), blob}
}

// request is the next entry, whose leaf is that of a request.
func (m *maker) request(blob string) entry {
	l := m.leaf(blob)
	l.Kind = api.LeafRequest
	return entry{leaf.Text(l), blob}
}

// tag is the tag with a number; they rise.
func tag(n int) string { return fmt.Sprintf("%032d", n) }

// work is a log in which there are leaves of all kinds.
func work() []entry {
	var m maker
	return []entry{m.entry("x"), m.entry("yy", tag(1), tag(3)), m.request("zzz"), m.entry(strings.Repeat("\xff", 880), tag(0), tag(1), tag(2)), m.entry("x", tag(3)), m.request("\x00"), m.entry("L", tag(1))}
}

// open opens a ledger that there must be.
func open(t *testing.T, d *disk.Disk) *ledger.Ledger {
	t.Helper()
	g, e := ledger.Open(d)
	if e != api.OK || g == nil {
		t.Fatalf("Open: %v", e)
	}
	return g
}

// holding is a disk whose store has some records, for good.
func holding(t *testing.T, records ...string) *disk.Disk {
	t.Helper()
	d := disk.New(12, 1024)
	s, e := segs.Open(d)
	for _, r := range records {
		if e == api.OK {
			_, e = s.Append(r)
		}
	}
	if e == api.OK {
		e = s.Sync()
	}
	if e != api.OK {
		t.Fatal(e)
	}
	return d
}

// stored are the records of the store that a disk has; it stays as it is.
func stored(t *testing.T, d *disk.Disk) []string {
	t.Helper()
	c := d.Clone()
	c.Up()
	c.Lay(api.Cut{After: 1 << 40})
	s, e := segs.Open(c)
	if e != api.OK {
		t.Fatalf("the store: %v", e)
	}
	return s.All()
}

// toldDisk is all that a disk that is up tells.
func toldDisk(t *testing.T, d *disk.Disk) []string {
	t.Helper()
	l := []string{fmt.Sprint(d.Changes(), d.Waits(), d.Falls())}
	for x := range d.Extents() {
		s, e := d.Read(x)
		if e != api.OK {
			t.Fatal(e)
		}
		l = append(l, s)
	}
	return l
}

// told is what a ledger tells.
func told(g *ledger.Ledger) []string {
	l := append([]string{fmt.Sprint(g.Len(), g.Sure())}, g.Log()...)
	for i := range g.Len() {
		s, _ := g.Blob(i)
		l = append(l, s)
	}
	next, e := g.Next([]string{tag(1)})
	root, f := g.Root(g.Len())
	return append(l, leaf.Text(next), root, fmt.Sprint(next, e, f))
}

// has asks whether a ledger has just some entries, of which so many are sure.
func has(t *testing.T, g *ledger.Ledger, l []entry, sure int) {
	t.Helper()
	if g.Len() != len(l) || g.Sure() != sure {
		t.Fatalf("Len %d, Sure %d, not %d, %d", g.Len(), g.Sure(), len(l), sure)
	}
	var log, digests []string
	for i, x := range l {
		log, digests = append(log, x.text), append(digests, tree.Leaf(x.text))
		if blob, is := g.Blob(i); !is || blob != x.blob {
			t.Fatalf("Blob %d: %q, %v", i, blob, is)
		}
	}
	if !slices.Equal(g.Log(), log) {
		t.Fatalf("Log: %x", g.Log())
	}
	if root, e := g.Root(len(l)); e != api.OK || root != tree.Root(digests) {
		t.Fatalf("Root: %x, %v", root, e)
	}
}

// put appends entries to a ledger.
func put(t *testing.T, g *ledger.Ledger, l []entry) {
	t.Helper()
	for _, x := range l {
		was := g.Len()
		if n, e := g.Append(x.text, x.blob); n != was || e != api.OK {
			t.Fatalf("Append: %d, %v", n, e)
		}
	}
}
