package segs_test

import (
	"math/rand"
	"slices"
	"testing"

	"lockbox/api"
	"lockbox/disk"
	"lockbox/segs"
)

const most = 1 << 40 // the greatest epoch

// refused asks whether Open refuses a disk with an error, and leaves it as it is.
func refused(t *testing.T, d *disk.Disk, want api.Errno, why string) {
	t.Helper()
	has, changes := bytesOf(t, d), d.Changes()
	if s, e := segs.Open(d); s != nil || e != want {
		t.Errorf("Open of %s: %v, not %v", why, e, want)
	}
	if !slices.Equal(bytesOf(t, d), has) || d.Changes() != changes {
		t.Errorf("Open of %s changes the disk", why)
	}
}

// 12.1: extents that no store has written, each but for one thing like those of a store.
func TestOpenOfWrongForm(t *testing.T) {
	l, seg := listOf(1, 2), headOf(0, 0)
	turn := func(s string, at int) string { return s[:at] + string([]byte{s[at] ^ 1}) + s[at+1:] }
	for _, c := range []struct {
		why string
		has [5]string
	}{
		{"junk in 0", [5]string{"junk"}}, {"junk in 1", [5]string{1: "junk"}}, {"junk in 1 beside a store", [5]string{l, "junk", seg}}, {"junk behind a list", [5]string{l + "junk", "", seg}},
		{"a list of no list", [5]string{framed("x"), "", seg}}, {"a list that is a number", [5]string{framed(num(1)), "", seg}}, {"a list that is a text", [5]string{framed(txt("seq")), "", seg}}, {"an empty list", [5]string{framed(list()), "", seg}}, {"a list without an epoch", [5]string{framed(list(txt("seq"))), "", seg}},
		{"a list with more behind it", [5]string{framed(list(txt("seq"), num(1), num(2)) + "\x00"), "", seg}}, {"a list with an ill number", [5]string{framed("\x09\x01\x03" + txt("seq") + "\x01\x00" + num(2)), "", seg}},
		{"a list by another name", [5]string{framed(list(txt("seg"), num(1), num(2))), "", seg}}, {"a list by a longer name", [5]string{framed(list(txt("seqs"), num(1), num(2))), "", seg}}, {"a list without a name", [5]string{framed(list(num(1), num(1), num(2))), "", seg}},
		{"an epoch that is a text", [5]string{framed(list(txt("seq"), txt("1"), num(2))), "", seg}}, {"an extent that is a text", [5]string{framed(list(txt("seq"), num(1), txt("2"))), "", seg}}, {"extents in a list of their own", [5]string{framed(list(txt("seq"), num(1), list(num(2)))), "", seg}}, {"an epoch too great", [5]string{listOf(most+1, 2), "", seg}},
		{"a segment in the extent 0", [5]string{listOf(1, 0), "", seg}}, {"a segment in the extent 1", [5]string{listOf(1, 1), seg, seg}}, {"a segment in the extent 5", [5]string{listOf(1, 5), "", seg}}, {"a segment far off", [5]string{listOf(1, 1<<56-1), "", seg}}, {"a segment twice", [5]string{listOf(2, 2, 2), "", seg}}, {"a segment twice, and one between", [5]string{listOf(2, 2, 3, 2), "", seg, headOf(1, 0)}},
		{"an ill list ahead of the one that counts", [5]string{framed("x") + l, "", seg}}, {"an ill list beside the one that counts", [5]string{l, listOf(0, 5), seg}}, {"a list of lists' extents beside the one that counts", [5]string{l, listOf(0, 1), seg}}, {"a list with a segment twice beside the one that counts", [5]string{l, listOf(0, 3, 3), seg}},
		{"a list with a turned bit", [5]string{turn(l, 9), "", seg}}, {"a list behind a turned one", [5]string{turn(l, 9) + l, "", seg}},
		{"no segment", [5]string{l}}, {"no segment, but in another extent", [5]string{l, "", "", seg}}, {"a torn head", [5]string{l, "", seg[:18]}}, {"a torn head of one byte", [5]string{l, "", "\xe5"}}, {"a head with a turned bit", [5]string{l, "", turn(seg, 18)}}, {"junk for a segment", [5]string{l, "", "junk"}},
		{"a record for a head", [5]string{l, "", recordsOf("a", "b")}}, {"a head by another name", [5]string{l, "", framed(list(txt("seq"), num(0), num(0)))}}, {"a head of another number", [5]string{l, "", headOf(1, 0)}}, {"a head with records ahead", [5]string{l, "", headOf(0, 1)}}, {"a head with more", [5]string{l, "", framed(list(txt("seg"), num(0), num(0), num(0)))}}, {"a head with less", [5]string{l, "", framed(list(txt("seg"), num(0)))}}, {"a head with more behind it", [5]string{l, "", framed(list(txt("seg"), num(0), num(0)) + "\x00")}}, {"a head with texts", [5]string{l, "", framed(list(txt("seg"), txt(""), num(0)))}},
		{"junk behind records", [5]string{l, "", seg + recordsOf("a") + "junk"}}, {"a record with a turned bit", [5]string{l, "", seg + turn(recordsOf("a", "b"), 8)}}, {"the last record with a turned bit", [5]string{l, "", seg + turn(recordsOf("a", "b"), 17)}}, {"a record too long", [5]string{l, "", seg + recordsOf(long(901))}},
		{"bytes behind the records of a segment that is not the last", [5]string{listOf(2, 2, 3), "", seg + recordsOf("a") + "\xe5", headOf(1, 1)}}, {"a torn record in a segment that is not the last", [5]string{listOf(2, 2, 3), "", seg + recordsOf("a", "b")[:17], headOf(1, 1)}}, {"no head of the last segment", [5]string{listOf(2, 2, 3), "", seg + recordsOf("a")}}, {"no head of the first segment", [5]string{listOf(2, 3, 2), "", headOf(1, 0)}},
		{"the wrong number of the second segment", [5]string{listOf(2, 2, 3), "", seg + recordsOf("a"), headOf(0, 1)}}, {"too few ahead of the second segment", [5]string{listOf(2, 2, 3), "", seg + recordsOf("a"), headOf(1, 0)}}, {"too many ahead of the second segment", [5]string{listOf(2, 2, 3), "", seg + recordsOf("a"), headOf(1, 2)}},
		{"segments the other way round", [5]string{listOf(2, 3, 2), "", seg + recordsOf("a"), headOf(1, 1)}},
	} {
		refused(t, holding(t, 1024, c.has[:]...), api.ErrForm, c.why)
		torn := c.has
		if torn[1] == "" {
			torn[1] = "\xe5" // also bytes that would be trimmed off stay
			refused(t, holding(t, 1024, torn[:]...), api.ErrForm, c.why+", and torn bytes")
		}
	}
}

// 12.1: what counts is the list of the greatest epoch of both extents, wherever it stands; segments lie in any extents.
func TestListThatCounts(t *testing.T) {
	one, two := headOf(0, 0)+recordsOf("one"), headOf(0, 0)+recordsOf("two")
	for i, c := range []struct {
		lists, other string
		want         string
	}{
		{listOf(1, 2), "", "one"}, {"", listOf(1, 2), "one"}, {listOf(1, 3), "", "two"}, {listOf(most, 3), "", "two"},
		{listOf(1, 2), listOf(2, 3), "two"}, {listOf(2, 2), listOf(1, 3), "one"}, {listOf(1, 3) + listOf(2, 2), listOf(3, 2) + listOf(4, 3), "two"}, {listOf(5, 3) + listOf(6, 2), listOf(3, 3) + listOf(4, 3), "one"}, {listOf(255, 2), listOf(256, 3), "two"}, {listOf(most, 2), listOf(most-1, 3), "one"},
	} {
		d := holding(t, 1024, c.lists, c.other, one, two, "not looked at")
		s := open(t, d)
		if got := tell(t, s); !got.same(told{all: []string{c.want}, sure: 1, segments: []int{1}, left: 2}) {
			t.Errorf("%d: %q", i, got.all)
		}
		if d.Changes() != 5 {
			t.Errorf("%d: Open of a whole store makes %d changes", i, d.Changes()-5)
		}
	}
}

// 12.1, 12.2: a store goes on from the list that counts: in its extent, with its epoch one more, in the least extent that is free, whatever stood there.
func TestGoesOn(t *testing.T) {
	full := headOf(1, 1) + recordsOf(long(900))
	for i, c := range []struct{ has, want [6]string }{
		{[6]string{listOf(1, 2), listOf(7, 5, 3), "old", full, "older", headOf(0, 0) + recordsOf("a")}, [6]string{listOf(1, 2), listOf(7, 5, 3) + listOf(8, 5, 3, 2), headOf(2, 2) + recordsOf(long(100)), full, "older", headOf(0, 0) + recordsOf("a")}},
		{[6]string{listOf(9, 2, 3), listOf(7, 5, 3), headOf(0, 0) + recordsOf("a"), full, headOf(2, 2) + "\xe5", "old"}, [6]string{listOf(9, 2, 3) + listOf(10, 2, 3, 4), listOf(7, 5, 3), headOf(0, 0) + recordsOf("a"), full, headOf(2, 2) + recordsOf(long(100)), "old"}},
		{[6]string{listOf(most-1, 2, 3), "", headOf(0, 0) + recordsOf("a"), full}, [6]string{listOf(most-1, 2, 3) + listOf(most, 2, 3, 4), "", headOf(0, 0) + recordsOf("a"), full, headOf(2, 2) + recordsOf(long(100))}},
	} {
		d := holding(t, 1024, c.has[:]...)
		s := open(t, d)
		if n, e := s.Append(long(100)); n != 2 || e != api.OK {
			t.Errorf("%d: Append: %d, %v", i, n, e)
		}
		if got := bytesOf(t, d); !slices.Equal(got, c.want[:]) {
			t.Errorf("%d: the disk has %x, not %x", i, got, c.want)
		}
	}
}

// 12.1: bytes behind the last whole frame of the last segment, and of the lists, are trimmed off, for good; others stay.
func TestTrimmed(t *testing.T) {
	l, another, seg, record := listOf(1, 2), listOf(2, 2, 3), headOf(0, 0), recordsOf("record")
	for _, n := range []int{1, 2, 3, 4, 5, 8, 9, 13} {
		for _, has := range [][]string{
			{l + another[:n], "", seg + record, ""}, {l, another[:n], seg + record, ""}, {l, "", seg + record + record[:n], ""}, {l + another[:n], another[:n], seg + record + record[:n], ""},
			{another[:n], l, seg + record, "old" + record[:n]}, {l, "", seg + record, record[:n]},
		} {
			d := holding(t, 1024, has...)
			want, torn := slices.Clone(has), 0
			for x, whole := range []string{l, l, seg + record} {
				if len(has[x]) < len(whole) {
					whole = ""
				}
				if want[x] = whole; want[x] != has[x] {
					torn++
				}
			}
			if got := tell(t, open(t, d)); !got.same(told{all: []string{"record"}, sure: 1, segments: []int{1}, left: 1}) {
				t.Errorf("%x: %q", has, got.all)
			}
			if got := bytesOf(t, d); !slices.Equal(got, want) {
				t.Errorf("%x: the disk has %x, not %x", has, got, want)
			}
			if d.Changes() != 4+torn || d.Waits() != 0 {
				t.Errorf("%x: %d changes, %d wait", has, d.Changes()-4, d.Waits())
			}
			open(t, d)
			if d.Changes() != 4+torn {
				t.Errorf("%x: opened once more, with changes", has)
			}
		}
	}
}

// 12.1: no list, but torn beginnings of one: the disk gets a store.
func TestNoList(t *testing.T) {
	l := listOf(1, 2)
	for n := range len(l) {
		for _, has := range [][]string{{l[:n], "", "", ""}, {l[:n], "", headOf(0, 0), ""}, {l[:n], "", headOf(0, 0)[:min(n, 19)], ""}, {"", l[:n], headOf(0, 0), ""}, {l[:n], l[:n], "", "old"}} {
			d := holding(t, 1024, has...)
			if got := tell(t, open(t, d)); !got.same(told{segments: []int{0}, left: 1}) {
				t.Errorf("%x: %q", has, got.all)
			}
			if got := bytesOf(t, d); !slices.Equal(got, []string{l, "", headOf(0, 0), has[3]}) {
				t.Errorf("%x: the disk has %x", has, got)
			}
		}
	}
}

// 12.1, 12.2: behind the greatest epoch no list is laid: a store goes on as far as its last segment has room.
func TestGreatestEpoch(t *testing.T) {
	d := holding(t, 1024, listOf(most, 2), "", headOf(0, 0), "")
	s := open(t, d)
	if n, e := s.Append(long(900)); n != 0 || e != api.OK {
		t.Errorf("Append: %d, %v", n, e)
	}
	was, changes := tell(t, s), d.Changes()
	if n, e := s.Append(long(900)); n != 0 || e != api.ErrFull {
		t.Errorf("Append that must turn: %d, %v", n, e)
	}
	if !tell(t, s).same(was) || d.Changes() != changes {
		t.Error("Append that is refused changes something")
	}
	if n, e := s.Append("a"); n != 1 || e != api.OK {
		t.Errorf("Append: %d, %v", n, e)
	}
}

// 12.1: a list without segments: one is turned to, and a list must be laid.
func TestListWithoutSegments(t *testing.T) {
	refused(t, holding(t, 1024, listOf(most), "", ""), api.ErrFull, "a list of the greatest epoch without segments")
	refused(t, holding(t, 1024, listOf(1, 2), listOf(most)+"\xe5", headOf(0, 0)), api.ErrFull, "a list of the greatest epoch without segments beside another")
	d := holding(t, 1024, "", listOf(5), "old")
	if got := tell(t, open(t, d)); !got.same(told{segments: []int{0}}) {
		t.Errorf("%q, segments %v", got.all, got.segments)
	}
	if got := bytesOf(t, d); !slices.Equal(got, []string{"", listOf(5) + listOf(6, 2), headOf(0, 0)}) {
		t.Errorf("the disk has %x", got)
	}
}

// R1, P7: of extents with any bytes, and of a store's with some of them turned, cut off or put in, Open ends; what it refuses it leaves as it is; of what it takes a store can be used, and opened again.
func TestOpenOfAnyBytes(t *testing.T) {
	r := rand.New(rand.NewSource(2))
	taken := 0
	for range 20000 {
		has := []string{listOf(1, 2), listOf(2, 2, 4), headOf(0, 0) + recordsOf("a", "b"), "", headOf(1, 2) + recordsOf("c", "d", "e")}
		for range 1 + r.Intn(2) {
			x := r.Intn(len(has))
			at := r.Intn(len(has[x]) + 1)
			switch r.Intn(4) {
			case 0:
				has[x] = has[x][:at]
			case 1:
				has[x] = has[x][:at] + text(r, r.Intn(4)) + has[x][at:]
			case 2:
				has[x] = has[x][:at] + text(r, 1)
			case 3:
				has[x] = has[r.Intn(len(has))]
			}
		}
		d := holding(t, 1024, has...)
		s, e := segs.Open(d)
		if e != api.OK {
			if s != nil || e != api.ErrForm || !slices.Equal(bytesOf(t, d), has) {
				t.Fatalf("Open of %x: %v", has, e)
			}
			continue
		}
		taken++
		was := tell(t, s)
		if n := len(was.all); n > 5 || !slices.Equal(was.all, []string{"a", "b", "c", "d", "e"}[:n]) {
			t.Fatalf("Open of %x: %q", has, was.all)
		}
		if n, e := s.Append("more"); n != len(was.all) || e != api.OK || s.Sync() != api.OK {
			t.Fatalf("Open of %x: Append: %d, %v", has, n, e)
		}
		d.Fail(0, 0)
		d.Up()
		if got := tell(t, open(t, d)); !slices.Equal(got.all, append(was.all, "more")) {
			t.Fatalf("Open of %x, and Append: %q", has, got.all)
		}
	}
	if taken < 1000 {
		t.Errorf("%d were taken only", taken)
	}
}
