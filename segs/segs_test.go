package segs_test

import (
	"math/rand"
	"slices"
	"testing"

	"lockbox/api"
	"lockbox/disk"
	"lockbox/segs"
)

// 12.4: the document's example.
func TestExample(t *testing.T) {
	d := disk.New(3, 1024)
	s := open(t, d)
	s.Append("a")
	s.Append("b")
	if e := s.Sync(); e != api.OK {
		t.Fatal(e)
	}
	s.Append("c")
	d.Fail(0, 0)
	d.Up()
	if got := tell(t, open(t, d)); !got.same(told{all: []string{"a", "b"}, sure: 2, segments: []int{2}}) {
		t.Errorf("opened again: %q, %d sure", got.all, got.sure)
	}
}

// 12.1: a disk without a store gets one: the segment 0 in the extent 2, and the list with it in the extent 0, for good.
func TestOpenOfNew(t *testing.T) {
	if segs.MinRoom != 1024 || segs.MaxRecord != 900 {
		t.Errorf("MinRoom %d, MaxRecord %d", segs.MinRoom, segs.MaxRecord)
	}
	for _, extents := range []int{3, 4, 64} {
		for _, room := range []int{1024, 1025, 65536} {
			d := disk.New(extents, room)
			s := open(t, d)
			is(t, s, d, fresh(extents, room))
			if d.Waits() != 0 {
				t.Errorf("%d changes wait", d.Waits())
			}
			if x, _ := d.Read(2); x != "\xe5\x00\x00\x0b"+x[4:8]+"\x09\x01\x03\x08\x01\x03seg\x00\x00" {
				t.Errorf("the head: %x", x)
			}
			if x, _ := d.Read(0); x != "\xe5\x00\x00\x0d"+x[4:8]+"\x09\x01\x03\x08\x01\x03seq\x01\x01\x01\x02" {
				t.Errorf("the list: %x", x)
			}
		}
	}
}

// 12.1: disks that are down, or none; disks that can't have a store. Nothing is changed.
func TestOpenOfWrongDisk(t *testing.T) {
	if s, e := segs.Open(nil); s != nil || e != api.ErrDown {
		t.Errorf("Open of none: %v", e)
	}
	for _, c := range []struct {
		extents, room int
		has           string
		want          api.Errno
	}{
		{1, 1024, "", api.ErrArg}, {2, 1024, "", api.ErrArg}, {2, 65536, "", api.ErrArg}, {3, 1023, "", api.ErrArg}, {64, 1023, "", api.ErrArg}, {64, 1, "", api.ErrArg}, {1, 1, "", api.ErrArg}, {3, 1024, "", api.OK},
		{2, 1024, "junk", api.ErrArg}, {3, 1023, "junk", api.ErrArg}, {3, 1024, "junk", api.ErrForm}, {3, 1024, long(1024), api.ErrForm}, {3, 1023, long(1023), api.ErrArg}, {3, 1024, "\xe5" + long(2), api.OK},
	} {
		d := disk.New(c.extents, c.room)
		d.Append(0, c.has)
		if s, e := segs.Open(d); e != c.want || (s != nil) != (e == api.OK) {
			t.Errorf("Open of %d extents of a room of %d with %.10q: %v, not %v", c.extents, c.room, c.has, e, c.want)
		} else if e != api.OK && (d.Changes() != 1 || d.Waits() != 1) {
			t.Errorf("Open of %d extents of a room of %d with %.10q: %d changes", c.extents, c.room, c.has, d.Changes())
		}
		d = disk.New(c.extents, c.room)
		d.Fail(0, 0)
		if s, e := segs.Open(d); s != nil || e != api.ErrDown {
			t.Errorf("Open of a disk that is down: %v", e)
		}
	}
}

// 12.2: which records there may be.
func TestRecords(t *testing.T) {
	d := disk.New(5, 1024)
	s := open(t, d)
	was := tell(t, s)
	for _, c := range []struct {
		n    int
		want api.Errno
	}{{0, api.ErrArg}, {901, api.ErrLong}, {902, api.ErrLong}, {32768, api.ErrLong}, {32769, api.ErrLong}, {1 << 20, api.ErrLong}} {
		if n, e := s.Append(long(c.n)); n != 0 || e != c.want {
			t.Errorf("Append of %d bytes: %d, %v", c.n, n, e)
		}
	}
	if !tell(t, s).same(was) || d.Changes() != 3 {
		t.Errorf("refused records change the store")
	}
	records := []string{"\x00", long(900), "", "\xe5", recordsOf("in it"), long(899), "a"}
	records = slices.DeleteFunc(records, func(r string) bool { return r == "" })
	for i, r := range records {
		if n, e := s.Append(r); n != i || e != api.OK {
			t.Errorf("Append of %.10q: %d, %v", r, n, e)
		}
	}
	s.Sync()
	if got := tell(t, s); !slices.Equal(got.all, records) {
		t.Errorf("%.20q", got.all)
	}
	d.Fail(0, 0)
	d.Up()
	if got := tell(t, open(t, d)); !slices.Equal(got.all, records) || got.sure != len(records) {
		t.Errorf("opened again: %.20q", got.all)
	}
}

// 12.2: a record that has just the room that is left is in the last segment; one byte more, and it is the first one of another.
func TestLastByteOfRoom(t *testing.T) {
	for more, want := range [][]int{{2}, {1, 1}} {
		d := disk.New(4, 1024)
		s, m := open(t, d), fresh(4, 1024)
		for _, r := range []string{long(900), long(1024 - 19 - 908 - 8 + more)} { // the head has 19 bytes
			if n, e := s.Append(r); e != api.OK || n != s.Len()-1 {
				t.Fatal(e)
			}
			m.append(r)
		}
		is(t, s, d, m)
		if !slices.Equal(s.Segments(), want) || (d.Room(2) == 0) != (more == 0) || s.Sure() != more {
			t.Errorf("%d more: segments %v, room %d, %d sure", more, s.Segments(), d.Room(2), s.Sure())
		}
	}
}

// 12.2: when no extent is left, what has no room is refused, and nothing changes; what has is taken.
func TestFull(t *testing.T) {
	d := disk.New(4, 1024)
	s, m := open(t, d), fresh(4, 1024)
	for range 2 {
		s.Append(long(900))
		m.append(long(900))
	}
	for _, r := range []string{long(900), long(90), long(88), long(87)} {
		was := tell(t, s)
		n, e := s.Append(r)
		if want, x := m.append(r); n != want || e != x {
			t.Errorf("Append of %d bytes: %d, %v, not %v", len(r), n, e, x)
		}
		if e != api.OK && (e != api.ErrFull || !tell(t, s).same(was)) {
			t.Errorf("Append of %d bytes: %v", len(r), e)
		}
		is(t, s, d, m)
	}
	if e := s.Sync(); e != api.OK || s.Sure() != 3 {
		t.Errorf("Sync of a full store: %v", e)
	}
	if s = open(t, d); s.Left() != 0 || s.Len() != 3 {
		t.Errorf("opened again: %d, %d left", s.Len(), s.Left())
	}
	if _, e := s.Append(long(90)); e != api.ErrFull {
		t.Errorf("opened again: %v", e)
	}
}

// 12.1, 12.2: any records and syncs on disks of any size: store and disk are byte by byte what the document's words say, also when the store is opened again. Lists go from one extent to the other, and back.
func TestAnyRecords(t *testing.T) {
	r := rand.New(rand.NewSource(1))
	turned := 0
	for round := range 60 {
		extents, room := 3+r.Intn(62), 1024+r.Intn(300)
		if round%4 == 0 {
			extents, room = 64, 1024+r.Intn(3000)
		}
		d := disk.New(extents, room)
		s, m := open(t, d), fresh(extents, room)
		for range 200 {
			record := text(r, 1+r.Intn(40))
			switch r.Intn(8) {
			case 0:
				if s.Sync() != api.OK {
					t.Fatal("Sync")
				}
				m.sure = len(m.records)
				continue
			case 1:
				s = open(t, d) // what waits is found, and sure from then on
				m.sure = len(m.records)
				if d.Waits() != 0 {
					t.Fatalf("%d changes wait behind Open", d.Waits())
				}
				is(t, s, d, m)
				continue
			case 2, 3, 4:
				record = text(r, 500+r.Intn(403))
			}
			lists := m.lists
			n, e := s.Append(record)
			if want, x := m.append(record); n != want || e != x {
				t.Fatalf("Append of %d bytes: %d, %v, not %d, %v", len(record), n, e, want, x)
			}
			if m.lists != lists {
				turned++
			}
			is(t, s, d, m)
		}
	}
	if turned < 20 {
		t.Errorf("lists went to the other extent %d times only", turned)
	}
}

// 12.2, 12.3: the most segments there are, each opened again.
func TestMostSegments(t *testing.T) {
	d := disk.New(64, 1024)
	s, m := open(t, d), fresh(64, 1024)
	for i := range 62 {
		record := text(rand.New(rand.NewSource(int64(i))), 900)
		if n, e := s.Append(record); n != i || e != api.OK {
			t.Fatalf("Append %d: %d, %v", i, n, e)
		}
		m.append(record)
		is(t, s, d, m)
		d.Sync()
		if got := tell(t, open(t, d)); got.left != 61-i || !slices.Equal(got.all, m.records) {
			t.Fatalf("opened again: %d records, %d left", len(got.all), got.left)
		}
	}
	if _, e := s.Append(long(900)); e != api.ErrFull {
		t.Errorf("Append to a full store: %v", e)
	}
}

// 12.2: a large extent holds many small records.
func TestManyRecords(t *testing.T) {
	d := disk.New(3, 65536)
	s := open(t, d)
	n := 0
	for {
		i, e := s.Append(string([]byte{byte(n)}))
		if e == api.ErrFull {
			break
		}
		if i != n || e != api.OK {
			t.Fatalf("Append %d: %d, %v", n, i, e)
		}
		n++
	}
	if n != (65536-19)/9 || !slices.Equal(s.Segments(), []int{n}) || s.Sure() != 0 {
		t.Errorf("%d records, segments %v", n, s.Segments())
	}
	if s = open(t, d); s.Len() != n || s.Sure() != n {
		t.Errorf("opened again: %d", s.Len())
	}
}

// 12.2: a store whose disk went down, if only once, is down for good; wrong records are told ahead of that. What it tells stays.
func TestDown(t *testing.T) {
	d := disk.New(4, 1024)
	s := open(t, d)
	s.Append("a")
	s.Sync()
	s.Append("b")
	was := tell(t, s)
	check := func(when string) {
		t.Helper()
		for _, c := range []struct {
			r    string
			want api.Errno
		}{{"c", api.ErrDown}, {long(900), api.ErrDown}, {"", api.ErrArg}, {long(901), api.ErrLong}} {
			if n, e := s.Append(c.r); n != 0 || e != c.want {
				t.Errorf("%s: Append of %d bytes: %d, %v", when, len(c.r), n, e)
			}
		}
		if e := s.Sync(); e != api.ErrDown {
			t.Errorf("%s: Sync: %v", when, e)
		}
		if !tell(t, s).same(was) {
			t.Errorf("%s: the store tells something else", when)
		}
	}
	d.Fail(9, 9)
	check("down")
	d.Up()
	check("up again")
	other := open(t, d)
	check("opened again")
	if got := tell(t, other); !slices.Equal(got.all, []string{"a", "b"}) || got.sure != 2 {
		t.Errorf("opened again: %q", got.all)
	}
	if n, e := other.Append("c"); n != 2 || e != api.OK || other.Sync() != api.OK {
		t.Errorf("opened again: %d, %v", n, e)
	}
	check("behind others")
	d.Fail(0, 0)
	d.Up()
	d.Fail(0, 0)
	d.Up()
	if _, e := other.Append("d"); e != api.ErrDown {
		t.Errorf("behind two losses of power: %v", e)
	}
}

// 12.3: how many are sure: those that were there when the store was opened, and at Sync, and at a turn.
func TestSure(t *testing.T) {
	d := disk.New(5, 1024)
	s := open(t, d)
	for i, c := range []struct {
		r    string
		sure int
	}{{"a", 0}, {"b", 0}, {"", 2}, {"c", 2}, {long(900), 2}, {long(900), 4}, {"d", 4}, {"", 6}, {"", 6}, {long(900), 6}, {"e", 6}} {
		if c.r == "" {
			s.Sync()
		} else if _, e := s.Append(c.r); e != api.OK {
			t.Errorf("%d: %v", i, e)
		}
		if s.Sure() != c.sure {
			t.Errorf("%d: %d sure, not %d", i, s.Sure(), c.sure)
		}
	}
	other := open(t, d)
	if other.Sure() != 8 || other.Len() != 8 {
		t.Errorf("opened while some wait: %d of %d sure", other.Sure(), other.Len())
	}
	d.Fail(0, 0)
	d.Up()
	if got := tell(t, open(t, d)); len(got.all) != 8 {
		t.Errorf("of 8 that were sure there are %d", len(got.all))
	}
}

// 12.3: a nil store.
func TestNilStore(t *testing.T) {
	var s *segs.Store
	for _, r := range []string{"a", "", long(901)} {
		if n, e := s.Append(r); n != 0 || e != api.ErrArg {
			t.Errorf("Append of %d bytes: %d, %v", len(r), n, e)
		}
	}
	if e := s.Sync(); e != api.ErrArg {
		t.Errorf("Sync: %v", e)
	}
	if got := tell(t, s); !got.same(told{}) {
		t.Errorf("a nil store tells something")
	}
}

// R3: lists that are told are the asker's own.
func TestListsAreOwn(t *testing.T) {
	d := disk.New(4, 1024)
	s := open(t, d)
	s.Append("a")
	s.Append("b")
	s.All()[0], s.Segments()[0] = "z", 9
	if got := tell(t, s); !slices.Equal(got.all, []string{"a", "b"}) || !slices.Equal(got.segments, []int{2}) {
		t.Errorf("what was told is changed: %q, %v", got.all, got.segments)
	}
	if s.Segments()[0] = 7; !slices.Equal(s.Segments(), []int{2}) {
		t.Error("Segments shares memory")
	}
}
