package segs_test

import (
	"encoding/binary"
	"hash/crc32"
	"math/rand"
	"slices"
	"strings"
	"testing"

	"lockbox/api"
	"lockbox/disk"
	"lockbox/segs"
)

// num, txt and list are bytes of items (layer 2), framed is a body's frame (layer 11), as the document's words say.
func num(n int) string {
	s := ""
	for ; n > 0; n /= 256 {
		s = string([]byte{byte(n)}) + s
	}
	return string([]byte{byte(len(s))}) + s
}

func txt(s string) string { return "\x08" + num(len(s)) + s }

func list(items ...string) string { return "\x09" + num(len(items)) + strings.Join(items, "") }

func framed(body string) string {
	long := binary.BigEndian.AppendUint32(nil, uint32(len(body)))[1:]
	sum := binary.LittleEndian.AppendUint32(nil, crc32.ChecksumIEEE(append(slices.Clone(long), body...)))
	return "\xe5" + string(long) + string(sum) + body
}

// headOf is the frame at the front of a segment.
func headOf(number, ahead int) string { return framed(list(txt("seg"), num(number), num(ahead))) }

// listOf is the frame of a list of segments.
func listOf(epoch int, extents ...int) string {
	items := []string{txt("seq"), num(epoch)}
	for _, x := range extents {
		items = append(items, num(x))
	}
	return framed(list(items...))
}

// recordsOf are the frames of records.
func recordsOf(l ...string) string {
	s := ""
	for _, r := range l {
		s += framed(r)
	}
	return s
}

// model is a store as the document's words say: what its disk has, and how many changes were made.
type model struct {
	room    int
	has     []string
	changes int
	lists   int
	epoch   int
	extents []int
	counts  []int
	records []string
	sure    int
}

// fresh is the model of a store that a disk without one gets.
func fresh(extents, room int) *model {
	m := &model{room: room, has: make([]string, extents)}
	m.turn()
	return m
}

func (m *model) put(x int, s string) {
	m.has[x] += s
	m.changes++
}

func (m *model) empty(x int) {
	m.has[x] = ""
	m.changes++
}

func (m *model) turn() bool {
	x := 2
	for slices.Contains(m.extents, x) {
		x++
	}
	if x == len(m.has) {
		return false
	}
	m.empty(x)
	m.put(x, headOf(len(m.extents), len(m.records)))
	m.extents, m.counts = append(m.extents, x), append(m.counts, 0)
	m.epoch++
	s := listOf(m.epoch, m.extents...)
	if len(m.has[m.lists])+len(s) > m.room {
		m.lists = 1 - m.lists
		m.empty(m.lists)
	}
	m.put(m.lists, s)
	m.sure = len(m.records)
	return true
}

func (m *model) append(record string) (int, api.Errno) {
	if record == "" {
		return 0, api.ErrArg
	}
	if len(record) > 900 {
		return 0, api.ErrLong
	}
	s := framed(record)
	if len(m.has[m.extents[len(m.extents)-1]])+len(s) > m.room && !m.turn() {
		return 0, api.ErrFull
	}
	m.put(m.extents[len(m.extents)-1], s)
	m.counts[len(m.counts)-1]++
	m.records = append(m.records, record)
	return len(m.records) - 1, api.OK
}

// told is all that a store tells of itself.
type told struct {
	all      []string
	sure     int
	segments []int
	left     int
}

func tell(t *testing.T, s *segs.Store) told {
	t.Helper()
	all := s.All()
	if s.Len() != len(all) {
		t.Fatalf("Len is %d, of %d records", s.Len(), len(all))
	}
	for i, r := range all {
		if x, is := s.Get(i); x != r || !is {
			t.Fatalf("Get(%d): %.20q, %v, not %.20q", i, x, is, r)
		}
	}
	for _, i := range []int{-1, len(all), len(all) + 1, -1 << 63, 1<<63 - 1} {
		if x, is := s.Get(i); x != "" || is {
			t.Fatalf("Get(%d) of %d: %.20q, %v", i, len(all), x, is)
		}
	}
	return told{all: all, sure: s.Sure(), segments: s.Segments(), left: s.Left()}
}

func (a told) same(b told) bool {
	return slices.Equal(a.all, b.all) && a.sure == b.sure && slices.Equal(a.segments, b.segments) && a.left == b.left
}

// bytesOf are what a disk that is up has.
func bytesOf(t *testing.T, d *disk.Disk) []string {
	t.Helper()
	l := make([]string, d.Extents())
	for x := range l {
		s, e := d.Read(x)
		if e != api.OK {
			t.Fatalf("Read(%d): %v", x, e)
		}
		l[x] = s
	}
	return l
}

// is asks whether a store and its disk are what the model says.
func is(t *testing.T, s *segs.Store, d *disk.Disk, m *model) {
	t.Helper()
	want := told{all: m.records, sure: m.sure, segments: m.counts, left: len(m.has) - 2 - len(m.extents)}
	if got := tell(t, s); !got.same(want) {
		t.Fatalf("%d records, %d sure, segments %v, %d left; not %d, %d, %v, %d", len(got.all), got.sure, got.segments, got.left, len(want.all), want.sure, want.segments, want.left)
	}
	for x, got := range bytesOf(t, d) {
		if got != m.has[x] {
			t.Fatalf("the extent %d has %x, not %x", x, got, m.has[x])
		}
	}
	if d.Changes() != m.changes {
		t.Fatalf("%d changes, not %d", d.Changes(), m.changes)
	}
}

func open(t *testing.T, d *disk.Disk) *segs.Store {
	t.Helper()
	s, e := segs.Open(d)
	if e != api.OK || s == nil {
		t.Fatalf("Open: %v", e)
	}
	return s
}

func text(r *rand.Rand, n int) string {
	b := make([]byte, n)
	r.Read(b)
	return string(b)
}

func long(n int) string { return strings.Repeat("x", n) }

// holding is a disk whose extents have these bytes, for good.
func holding(t *testing.T, room int, has ...string) *disk.Disk {
	t.Helper()
	d := disk.New(len(has), room)
	for x, s := range has {
		if e := d.Append(x, s); e != api.OK {
			t.Fatalf("the extent %d: %v", x, e)
		}
	}
	d.Sync()
	return d
}
