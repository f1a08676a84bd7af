package ledger_test

import (
	"slices"
	"strings"
	"testing"

	"lockbox/api"
	"lockbox/digest"
	"lockbox/disk"
	"lockbox/leaf"
	"lockbox/ledger"
	"lockbox/segs"
)

// storeTakes tells whether a disk's store takes some records; the disk stays as it is.
func storeTakes(t *testing.T, d *disk.Disk, records ...string) bool {
	t.Helper()
	s, e := segs.Open(d.Clone())
	for _, r := range records {
		if e == api.OK {
			_, e = s.Append(r)
		}
	}
	if e != api.OK && e != api.ErrFull {
		t.Fatal(e)
	}
	return e == api.OK
}

// appendTo appends records to a disk's store.
func appendTo(t *testing.T, d *disk.Disk, records ...string) {
	t.Helper()
	s, e := segs.Open(d)
	for _, r := range records {
		if e == api.OK {
			_, e = s.Append(r)
		}
	}
	if e != api.OK || s.Sync() != api.OK {
		t.Fatal(e)
	}
}

// 23.1, 23.2: what is sure behind Sync, and behind a turn to another segment, at either record.
func TestSure(t *testing.T) {
	var atBlob, atLeaf bool
	for _, long := range []int{300, 420, 600, 880} {
		d := disk.New(40, 1024)
		g := open(t, d)
		var m maker
		var l []entry
		sure := 0
		for i := range 12 {
			x := m.entry(strings.Repeat("x", long-i), tag(1))
			was := len(segments(t, d))
			blobTurns := d.Room(1+was) < 8+len("B"+x.blob)
			put(t, g, []entry{x})
			l = append(l, x)
			if len(segments(t, d)) > was {
				sure = i
				atBlob, atLeaf = atBlob || blobTurns, atLeaf || !blobTurns
			}
			has(t, g, l, sure)
			c := d.Clone()
			c.Fail(0, 0)
			c.Up()
			if n := open(t, c).Len(); n < sure {
				t.Errorf("%d are there, %d were sure", n, sure)
			}
			if i == 7 {
				g.Sync()
				sure = 8
				has(t, g, l, sure)
			}
		}
		has(t, open(t, d), l, len(l))
	}
	if !atBlob || !atLeaf {
		t.Errorf("turned at a blob: %v, at a leaf: %v", atBlob, atLeaf)
	}
}

// 23.1: a disk that is down, or was.
func TestDown(t *testing.T) {
	for _, extents := range []int{3, 12} { // of 3 the store asks for room on a copy
		d := disk.New(extents, 1024)
		g := open(t, d)
		l := work()
		put(t, g, l[:2])
		g.Sync()
		put(t, g, l[2:3])
		d.Fail(0, 0)
		for range 2 {
			if n, e := g.Append(l[3].text, l[3].blob); n != 0 || e != api.ErrDown {
				t.Errorf("Append: %d, %v", n, e)
			}
			if n, e := g.Append("junk", "x"); n != 0 || e != api.ErrForm {
				t.Errorf("Append of junk: %d, %v", n, e)
			}
			if n, e := g.Append(l[4].text, l[4].blob); n != 0 || e != api.ErrProof {
				t.Errorf("Append of another one: %d, %v", n, e)
			}
			if e := g.Sync(); e != api.ErrDown {
				t.Errorf("Sync: %v", e)
			}
			has(t, g, l[:3], 2)
			d.Up()
		}
		has(t, open(t, d), l[:2], 2)
	}
}

// 23.1: a ledger whose disk went down says so, also where there is no room.
func TestDownAndFull(t *testing.T) {
	d := disk.New(3, 1024)
	g := open(t, d)
	l := work()
	put(t, g, l[:3])
	g.Sync()
	if n, e := g.Append(l[3].text, l[3].blob); n != 0 || e != api.ErrFull {
		t.Fatalf("Append: %d, %v", n, e)
	}
	d.Fail(0, 0)
	for range 2 {
		if n, e := g.Append(l[3].text, l[3].blob); n != 0 || e != api.ErrDown {
			t.Errorf("Append: %d, %v", n, e)
		}
		d.Up()
	}
	if n, e := open(t, d).Append(l[3].text, l[3].blob); n != 0 || e != api.ErrFull {
		t.Errorf("opened again, Append: %d, %v", n, e)
	}
}

// heavy is a log in which there is a turn to another segment at nearly each entry, at a blob or at a leaf.
func heavy() []entry {
	var m maker
	var l []entry
	for i, long := range []int{500, 300, 880, 100, 700, 350, 880} {
		l = append(l, m.entry(strings.Repeat("h", long), tag(i%3), tag(i+5)))
	}
	return l
}

// run appends entries to the ledger of a disk, and syncs now and then, until the power fails: the entries that were appended, how many were sure, and whether the power failed. A call at which it does changes nothing of what the ledger tells.
func run(t *testing.T, d *disk.Disk, l []entry) (done, sure int, cut bool) {
	t.Helper()
	g, e := ledger.Open(d)
	if e != api.OK {
		if g != nil || e != api.ErrDown || !d.Down() {
			t.Fatalf("Open: %v", e)
		}
		return 0, 0, true
	}
	sure = g.Sure()
	for i := g.Len(); i < len(l); i++ {
		was := told(g)
		n, e := g.Append(l[i].text, l[i].blob)
		if e != api.OK {
			if n != 0 || e != api.ErrDown || !d.Down() {
				t.Fatalf("Append: %d, %v", n, e)
			}
			if !slices.Equal(told(g), was) {
				t.Fatal("a call at which the power fails changes what the ledger tells")
			}
			return i, sure, true
		}
		if i%3 == 1 {
			if e := g.Sync(); e != api.OK || g.Sure() != i+1 {
				t.Fatalf("Sync: %v, %d", e, g.Sure())
			}
		}
		sure = g.Sure()
	}
	return len(l), sure, false
}

// 23.4, P3: wherever a cut strikes, whatever of what waits stays, and however much is torn: what was sure is there, and of the others a beginning; and the ledger goes on from there.
func TestCutAnywhere(t *testing.T) {
	for _, l := range [][]entry{work(), heavy()} {
		kept, lost := 0, 0
		for after := 0; ; after++ {
			cut := false
			for _, keep := range []int{0, 1, 2, 3, 9} {
				for _, torn := range []int{0, 1, 9, 300, 2000} {
					d := disk.New(20, 1024)
					d.Lay(api.Cut{After: after, Keep: keep, Torn: torn})
					var done, sure int
					if done, sure, cut = run(t, d, l); !cut {
						continue
					}
					d.Up()
					n := open(t, d).Len()
					if n < sure || n > done+1 {
						t.Fatalf("%d entries are there; %d were sure, %d were appended", n, sure, done)
					}
					if n > sure {
						kept++
					}
					if n < done {
						lost++
					}
					has(t, open(t, d), l[:n], n)
					goesOn(t, d, l, n)
				}
			}
			if !cut {
				break
			}
		}
		if kept == 0 || lost == 0 {
			t.Errorf("more than was sure was there %d times, less than was appended %d times", kept, lost)
		}
	}
}

// goesOn lets the power fail once more, while a ledger that has n entries is opened, or soon behind that; all others can still be appended.
func goesOn(t *testing.T, d *disk.Disk, l []entry, n int) {
	t.Helper()
	for after := range 3 {
		c := d.Clone()
		c.Lay(api.Cut{After: after, Torn: 4})
		_, sure, cut := run(t, c, l)
		c.Up()
		c.Lay(api.Cut{After: 1 << 40})
		if m := open(t, c).Len(); m < n || m < sure {
			t.Fatalf("%d entries are there, %d were sure", m, max(n, sure))
		}
		if done, _, cut := run(t, c, l); cut || done != len(l) {
			t.Fatal("the power failed without a cut")
		}
		has(t, open(t, c), l, len(l))
		if !cut {
			break
		}
	}
}

// 23.1: where the power fails while a ledger is opened, it fails on the disk itself.
func TestCutInOpen(t *testing.T) {
	for after := range 4 {
		d := disk.New(3, 1024)
		d.Lay(api.Cut{After: after})
		g, e := ledger.Open(d)
		if after == 3 { // a new store needs three changes
			if e != api.OK || d.Down() {
				t.Errorf("Open: %v", e)
			}
			continue
		}
		if g != nil || e != api.ErrDown || !d.Down() || d.Falls() != 1 {
			t.Errorf("Open: %v; the power did not fail", e)
		}
		d.Up()
		has(t, open(t, d), nil, 0)
	}
	ill := holding(t, "junk")
	ill.Append(2, "\xe5")
	ill.Lay(api.Cut{})
	if g, e := ledger.Open(ill); g != nil || e != api.ErrDown || !ill.Down() {
		t.Errorf("Open of what is ill: %v", e)
	}
	ill.Up()
	if g, e := ledger.Open(ill); g != nil || e != api.ErrForm {
		t.Errorf("Open of what is ill: %v", e)
	}
}

// 23.1: where there is no room for an entry, no change is made at which a cut could strike; it strikes at the next one that has room.
func TestCutAndFull(t *testing.T) {
	d := disk.New(3, 1024)
	g := open(t, d)
	l := work()
	put(t, g, l[:3])
	d.Lay(api.Cut{After: 2})
	if n, e := g.Append(l[3].text, l[3].blob); n != 0 || e != api.ErrFull || d.Down() {
		t.Errorf("Append: %d, %v", n, e)
	}
	has(t, g, l[:3], 0)
	x, _ := g.Next(nil)
	x.Digest = digest.Sum("x")
	next := entry{leaf.Text(x), "x"}
	put(t, g, []entry{next})
	has(t, g, append(l[:3:3], next), 0)
	x, _ = g.Next(nil)
	x.Digest = digest.Sum("y")
	if n, e := g.Append(leaf.Text(x), "y"); n != 0 || e != api.ErrDown || !d.Down() {
		t.Errorf("Append: %d, %v", n, e)
	}
}
