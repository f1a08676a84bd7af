package ledger_test

import (
	"slices"
	"strings"
	"testing"

	"lockbox/api"
	"lockbox/canon"
	"lockbox/disk"
	"lockbox/frame"
	"lockbox/leaf"
	"lockbox/ledger"
)

// wornList is a list of segments of the greatest epoch, of none.
func wornList(t *testing.T) string {
	t.Helper()
	body, e := canon.Encode(canon.List(canon.Text("seq"), canon.Num(1<<40)))
	text, f := frame.Wrap(body)
	if e != api.OK || f != api.OK {
		t.Fatal(e, f)
	}
	return text
}

// 23.1: where there is no room for both records of an entry, nothing becomes of it, at whichever of them, or behind whichever turn, the room ends; a lesser one is still taken.
func TestFull(t *testing.T) {
	var neither, blobs, lesser int // how often there was room for neither record, how often for the blob's alone, how often for a lesser entry
	for _, extents := range []int{3, 4, 5} {
		for long := 1; long <= 880; long += 13 {
			d := disk.New(extents, 1024)
			if long%2 == 0 { // a disk whose power failed, but not under this ledger
				open(t, d)
				d.Fail(0, 0)
				d.Up()
			}
			g := open(t, d)
			var m maker
			var l []entry
			for {
				was := m
				x := m.entry(strings.Repeat("x", long), tag(1), tag(2))
				wasDisk, wasTold := toldDisk(t, d), told(g)
				n, e := g.Append(x.text, x.blob)
				if e == api.OK {
					l = append(l, x)
					continue
				}
				if n != 0 || e != api.ErrFull || !slices.Equal(toldDisk(t, d), wasDisk) || !slices.Equal(told(g), wasTold) {
					t.Fatalf("Append: %d, %v", n, e)
				}
				if storeTakes(t, d, x.records()[0]) {
					blobs++
				} else {
					neither++
				}
				m = was
				break
			}
			if x := m.entry("x"); storeTakes(t, d, x.records()...) {
				lesser++
				put(t, g, []entry{x})
				l = append(l, x)
			}
			has(t, open(t, d), l, len(l))
			if !slices.Equal(stored(t, d), recordsOf(l)) {
				t.Fatal("records that are none's")
			}
		}
	}
	if neither == 0 || blobs == 0 || lesser == 0 {
		t.Errorf("room for neither %d times, for the blob's %d times, for a lesser entry %d times", neither, blobs, lesser)
	}
}

// 23.1: a ledger of the greatest length, and what is beyond it.
func TestLong(t *testing.T) {
	d := disk.New(64, 1<<16)
	g := open(t, d)
	var m maker
	for i := range api.MaxLeaves {
		x := m.entry(strings.Repeat("b", i%7+1))
		if n, e := g.Append(x.text, x.blob); n != i || e != api.OK {
			t.Fatalf("Append %d: %d, %v", i, n, e)
		}
	}
	g.Sync()
	last := g.Log()[4095]
	if l, e := g.Next(nil); e != api.ErrArg || l.Index != "" {
		t.Errorf("Next: %v", e)
	}
	was := d.Changes()
	for _, c := range []struct {
		text, blob string
		want       api.Errno
	}{{last, "b", api.ErrLong}, {"junk", "b", api.ErrLong}, {last, "x", api.ErrLong}, {last, "", api.ErrArg}} {
		if n, e := g.Append(c.text, c.blob); n != 0 || e != c.want {
			t.Errorf("Append of one more: %d, %v", n, e)
		}
	}
	if g.Len() != 4096 || d.Changes() != was {
		t.Error("what is refused changes something")
	}
	again := open(t, d)
	if again.Len() != 4096 || again.Sure() != 4096 || again.Log()[4095] != last {
		t.Errorf("opened again: %d", again.Len())
	}
	if root, e := again.Root(4096); e != api.OK || len(root) != 32 {
		t.Errorf("Root: %v", e)
	}
	l, _ := leaf.Read(last)
	l.Number = 4095 // there is no leaf of the number 4096: one more has an old one
	appendTo(t, d, entry{leaf.Text(l), "b"}.records()...)
	if g, e := ledger.Open(d); g != nil || e != api.ErrForm {
		t.Errorf("Open of one more: %v", e)
	}
}

// 23.1, 23.2: an index of the most rows: nothing with another tag is next, nor could be appended; what has none, or an old one, is.
func TestMostRows(t *testing.T) {
	g := open(t, disk.New(64, 1<<16))
	var m maker
	rows := 0
	for rows < 4096 {
		var tags []string
		for len(tags) < 12 && rows < 4096 {
			tags = append(tags, tag(rows))
			rows++
		}
		put(t, g, []entry{m.entry("x", tags...)})
	}
	for _, tags := range [][]string{{tag(4096)}, {tag(0), tag(9999)}} {
		if l, e := g.Next(tags); e != api.ErrFull || l.Index != "" || l.Number != 0 || l.Kind != 0 || len(l.Tags) > 0 {
			t.Errorf("Next: %v, %v", l, e)
		}
	}
	c := m
	l := c.leaf("y", tag(7))
	l.Tags[0] = api.Posting{Tag: tag(4096)}
	if n, e := g.Append(leaf.Text(l), "y"); n != 0 || e != api.ErrProof {
		t.Errorf("Append: %d, %v", n, e)
	}
	put(t, g, []entry{m.entry("y", tag(7), tag(4095)), m.entry("z")})
}
