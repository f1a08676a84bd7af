package disk_test

import (
	"math"
	"math/rand"
	"slices"
	"strings"
	"testing"

	"lockbox/api"
	"lockbox/disk"
)

func long(n int) string { return strings.Repeat("x", n) }

// all are the bytes of a disk's extents.
func all(t *testing.T, d *disk.Disk) []string {
	t.Helper()
	var l []string
	for x := range d.Extents() {
		s, e := d.Read(x)
		if e != api.OK {
			t.Fatalf("Read(%d): %v", x, e)
		}
		l = append(l, s)
	}
	return l
}

// holds asks whether a disk that is up has just these bytes.
func holds(t *testing.T, d *disk.Disk, want ...string) {
	t.Helper()
	if got := all(t, d); !slices.Equal(got, want) {
		t.Errorf("the disk has %.60q, not %.60q", got, want)
	}
}

// oks asks whether all these were done.
func oks(t *testing.T, l ...api.Errno) {
	t.Helper()
	for i, e := range l {
		if e != api.OK {
			t.Errorf("call %d: %v", i, e)
		}
	}
}

// 10.1: the document's example.
func TestExample(t *testing.T) {
	d := disk.New(1, 8)
	oks(t, d.Append(0, "abc"), d.Sync(), d.Append(0, "def"))
	d.Fail(0, 2)
	if !d.Up() {
		t.Error("Up: it was not down")
	}
	holds(t, d, "abcde")
}

// 10.1: of how many extents, and with how much room, a disk may be; all are empty.
func TestNew(t *testing.T) {
	for _, extents := range []int{math.MinInt, -1, 0, 1, 2, 63, 64, 65, 1 << 32, math.MaxInt} {
		for _, room := range []int{math.MinInt, -1, 0, 1, 2, 65535, 65536, 65537, 1 << 32, math.MaxInt} {
			d := disk.New(extents, room)
			if is := extents >= 1 && extents <= 64 && room >= 1 && room <= 65536; (d != nil) != is {
				t.Errorf("New(%d, %d): %v", extents, room, is)
			}
			if d == nil {
				continue
			}
			if d.Extents() != extents || d.Waits() != 0 || d.Changes() != 0 || d.Falls() != 0 || d.Down() {
				t.Errorf("New(%d, %d): %d, %d, %d, %d, %v", extents, room, d.Extents(), d.Waits(), d.Changes(), d.Falls(), d.Down())
			}
			for x := range extents {
				if s, e := d.Read(x); s != "" || e != api.OK || d.Room(x) != room {
					t.Errorf("New(%d, %d): extent %d: %q, %v, room %d", extents, room, x, s, e, d.Room(x))
				}
			}
		}
	}
}

// 10.1, 10.2: bytes are appended, cut off and emptied, each extent for itself; what waits is read, too.
func TestChanges(t *testing.T) {
	d := disk.New(3, 10)
	oks(t, d.Append(1, "ab"), d.Append(1, ""), d.Append(1, "\x00\xff"), d.Append(2, "0123456789"), d.Append(2, ""))
	step := func(e api.Errno, waits, changes int, want ...string) {
		t.Helper()
		if e != api.OK || d.Waits() != waits || d.Changes() != changes {
			t.Errorf("%v, %d wait, %d changes", e, d.Waits(), d.Changes())
		}
		holds(t, d, want...)
		for x, s := range want {
			if d.Room(x) != 10-len(s) {
				t.Errorf("Room(%d): %d", x, d.Room(x))
			}
		}
	}
	step(api.OK, 5, 5, "", "ab\x00\xff", "0123456789")
	step(d.Trim(1, 3), 6, 6, "", "ab\x00", "0123456789")
	step(d.Trim(1, 3), 7, 7, "", "ab\x00", "0123456789")
	step(d.Sync(), 0, 7, "", "ab\x00", "0123456789")
	step(d.Sync(), 0, 7, "", "ab\x00", "0123456789")
	step(d.Trim(2, 0), 1, 8, "", "ab\x00", "")
	step(d.Trim(0, 0), 2, 9, "", "ab\x00", "")
	step(d.Append(2, "x"), 3, 10, "", "ab\x00", "x")
	step(d.Empty(1), 4, 11, "", "", "x")
	step(d.Empty(1), 5, 12, "", "", "x")
	step(d.Append(0, "new"), 6, 13, "new", "", "x")
	step(d.Sync(), 0, 13, "new", "", "x")
}

// 10.1: calls with arguments that may not be: ErrArg ahead of ErrFull, and nothing is changed.
func TestWrongArguments(t *testing.T) {
	d := disk.New(2, 10)
	oks(t, d.Append(0, "abc"), d.Append(1, "0123456789"), d.Sync(), d.Append(0, "d"))
	for i, c := range []struct{ got, want api.Errno }{
		{d.Append(2, "a"), api.ErrArg}, {d.Append(-1, "a"), api.ErrArg}, {d.Append(64, ""), api.ErrArg}, {d.Append(math.MaxInt, "a"), api.ErrArg}, {d.Append(math.MinInt, "a"), api.ErrArg}, {d.Append(1<<32, "a"), api.ErrArg}, {d.Append(2, long(11)), api.ErrArg}, {d.Append(-1, long(70000)), api.ErrArg},
		{d.Append(0, "0123456"), api.ErrFull}, {d.Append(1, "a"), api.ErrFull}, {d.Append(0, long(11)), api.ErrFull}, {d.Append(0, long(1<<20)), api.ErrFull},
		{d.Trim(2, 0), api.ErrArg}, {d.Trim(-1, 0), api.ErrArg}, {d.Trim(math.MaxInt, 0), api.ErrArg}, {d.Trim(math.MinInt, 0), api.ErrArg},
		{d.Trim(0, 5), api.ErrArg}, {d.Trim(0, -1), api.ErrArg}, {d.Trim(1, 11), api.ErrArg}, {d.Trim(0, math.MaxInt), api.ErrArg}, {d.Trim(0, math.MinInt), api.ErrArg}, {d.Trim(0, 1<<32), api.ErrArg},
		{d.Empty(2), api.ErrArg}, {d.Empty(-1), api.ErrArg}, {d.Empty(math.MaxInt), api.ErrArg}, {d.Empty(math.MinInt), api.ErrArg},
	} {
		if c.got != c.want {
			t.Errorf("call %d: %v, not %v", i, c.got, c.want)
		}
	}
	for _, x := range []int{2, -1, 64, 1 << 32, math.MaxInt, math.MinInt} {
		if s, e := d.Read(x); s != "" || e != api.ErrArg {
			t.Errorf("Read(%d): %q, %v", x, s, e)
		}
		if d.Room(x) != 0 {
			t.Errorf("Room(%d): %d", x, d.Room(x))
		}
	}
	holds(t, d, "abcd", "0123456789")
	if d.Waits() != 1 || d.Changes() != 3 || d.Falls() != 0 || d.Down() {
		t.Errorf("refused calls leave %d that wait, %d changes", d.Waits(), d.Changes())
	}
	oks(t, d.Append(0, "012345"))
	holds(t, d, "abcd012345", "0123456789")
}

// 10.1: an extent takes just its room, however much of it has come and gone; what waits counts.
func TestRoom(t *testing.T) {
	d := disk.New(64, 65536)
	oks(t, d.Append(63, long(65535)), d.Append(63, "y"))
	if d.Append(63, "z") != api.ErrFull || d.Room(63) != 0 || d.Room(62) != 65536 {
		t.Errorf("a full extent: room %d, beside it %d", d.Room(63), d.Room(62))
	}
	oks(t, d.Trim(63, 1), d.Append(63, long(65535)), d.Append(63, ""))
	if d.Append(63, "z") != api.ErrFull {
		t.Error("an extent takes more than its room")
	}
	oks(t, d.Empty(63), d.Append(63, long(65536)), d.Sync())
	if s, e := d.Read(63); s != long(65536) || e != api.OK {
		t.Errorf("Read: %d bytes, %v", len(s), e)
	}
	d.Fail(0, 0)
	if d.Room(63) != 0 || d.Room(0) != 0 {
		t.Error("a disk that is down has room")
	}
	d.Up()
	if d.Append(63, "z") != api.ErrFull || d.Room(0) != 65536 {
		t.Error("behind a loss of power an extent has another room")
	}
}

// down asks whether all calls are refused.
func down(t *testing.T, d *disk.Disk) {
	t.Helper()
	for i, e := range []api.Errno{d.Append(0, ""), d.Append(0, "a"), d.Append(-1, "a"), d.Append(0, long(70000)), d.Trim(0, 0), d.Trim(0, -1), d.Trim(9, 0), d.Empty(0), d.Empty(-1), d.Sync()} {
		if e != api.ErrDown {
			t.Errorf("call %d of a disk that is down: %v", i, e)
		}
	}
	for _, x := range []int{0, -1, 99} {
		if s, e := d.Read(x); s != "" || e != api.ErrDown {
			t.Errorf("Read(%d) of a disk that is down: %q, %v", x, s, e)
		}
		if d.Room(x) != 0 {
			t.Errorf("Room(%d) of a disk that is down: %d", x, d.Room(x))
		}
	}
	if !d.Down() || d.Waits() != 0 {
		t.Errorf("a disk that is down: %v, %d wait", d.Down(), d.Waits())
	}
}

// 10.1, 10.2: a nil disk.
func TestNilDisk(t *testing.T) {
	var d *disk.Disk
	d.Fail(1, 1)
	d.Lay(api.Cut{})
	down(t, d)
	if d.Extents() != 0 || d.Changes() != 0 || d.Falls() != 0 || d.Up() || d.Clone() != nil || !d.Down() {
		t.Error("a nil disk is more than nothing")
	}
}

// 10.1, 10.2: a disk that is down refuses all, ahead of what else is wrong; a second loss of power does nothing to it; up again, it is what it was.
func TestDown(t *testing.T) {
	d := disk.New(2, 10)
	oks(t, d.Append(0, "abc"), d.Sync(), d.Append(0, "de"), d.Append(1, "fg"))
	if d.Up() || d.Down() {
		t.Error("Up says of a disk that is up that it was down")
	}
	d.Fail(1, 0)
	down(t, d)
	if d.Extents() != 2 || d.Changes() != 3 || d.Falls() != 1 {
		t.Errorf("%d extents, %d changes, %d falls", d.Extents(), d.Changes(), d.Falls())
	}
	d.Fail(9, 9)
	d.Fail(0, 0)
	down(t, d)
	if d.Falls() != 1 {
		t.Errorf("a disk that is down failed %d times", d.Falls())
	}
	if !d.Up() || d.Down() || d.Up() {
		t.Error("Up says otherwise")
	}
	holds(t, d, "abcde", "")
	if d.Waits() != 0 || d.Changes() != 3 || d.Room(0) != 5 || d.Room(1) != 10 {
		t.Errorf("behind Up: %d wait, %d changes, room %d and %d", d.Waits(), d.Changes(), d.Room(0), d.Room(1))
	}
	d.Fail(0, 0)
	d.Up()
	holds(t, d, "abcde", "")
	if d.Falls() != 2 {
		t.Errorf("%d falls", d.Falls())
	}
}

// 10.2: what stays behind Fail: how many changes, and how many bytes of the next one, if it appends.
func TestFail(t *testing.T) {
	for i, c := range []struct {
		keep, torn int
		want       []string
	}{
		{0, 0, []string{"abc", "sure"}}, {0, -1, []string{"abc", "sure"}}, {0, 1, []string{"abcd", "sure"}}, {0, 2, []string{"abcde", "sure"}}, {0, 3, []string{"abcde", "sure"}}, {0, math.MaxInt, []string{"abcde", "sure"}}, {0, math.MinInt, []string{"abc", "sure"}},
		{-1, 0, []string{"abc", "sure"}}, {-1, 1, []string{"abcd", "sure"}}, {math.MinInt, 9, []string{"abcde", "sure"}},
		{1, 0, []string{"abcde", "sure"}}, {1, 9, []string{"abcde", "sure"}}, // the next one trims
		{2, 0, []string{"a", "sure"}}, {2, 1, []string{"a", "suref"}}, {2, 2, []string{"a", "surefg"}},
		{3, 0, []string{"a", "surefg"}}, {3, 5, []string{"a", "surefg"}}, // the next one empties
		{4, 0, []string{"a", ""}}, {4, 5, []string{"a", ""}}, // the next one appends nothing
		{5, 0, []string{"a", ""}}, {5, 1, []string{"a", "h"}}, {5, -5, []string{"a", ""}},
		{6, 0, []string{"a", "hi"}}, {6, 9, []string{"a", "hi"}}, {7, 0, []string{"a", "hi"}}, {math.MaxInt, math.MaxInt, []string{"a", "hi"}},
	} {
		d := disk.New(2, 6)
		oks(t, d.Append(0, "abc"), d.Append(1, "sure"), d.Sync())
		oks(t, d.Append(0, "de"), d.Trim(0, 1), d.Append(1, "fg"), d.Empty(1), d.Append(0, ""), d.Append(1, "hi"))
		d.Fail(c.keep, c.torn)
		down(t, d)
		if !d.Up() || d.Falls() != 1 || d.Changes() != 8 {
			t.Errorf("%d: %d falls, %d changes", i, d.Falls(), d.Changes())
		}
		holds(t, d, c.want...)
		if d.Room(0) != 6-len(c.want[0]) || d.Room(1) != 6-len(c.want[1]) {
			t.Errorf("%d: room %d and %d", i, d.Room(0), d.Room(1))
		}
		d.Fail(9, 9) // nothing waits: what was lost does not come again, and what stayed is for good
		d.Up()
		holds(t, d, c.want...)
	}
}

// cut is a disk with two changes that are sure, and one that waits, and on which a cut is laid.
func cut(t *testing.T, c api.Cut) *disk.Disk {
	t.Helper()
	d := disk.New(2, 9)
	oks(t, d.Append(0, "abc"), d.Append(1, "12"), d.Sync(), d.Append(0, "wait"))
	d.Lay(c)
	if d.Down() || d.Waits() != 1 || d.Changes() != 3 {
		t.Errorf("a cut that is laid strikes")
	}
	return d
}

// 10.2: a cut strikes at the change behind so many others, which is put to those that wait; what stays is told by Keep and Torn; the call answers ErrDown, and is no change that was made.
func TestCut(t *testing.T) {
	for i, c := range []struct {
		cut  api.Cut
		want []string
	}{
		{api.Cut{}, []string{"abc", "12"}}, {api.Cut{Keep: -3, Torn: -3}, []string{"abc", "12"}}, {api.Cut{Torn: 3}, []string{"abcwai", "12"}}, {api.Cut{Keep: 1}, []string{"abcwait", "12"}}, {api.Cut{Keep: 1, Torn: 1}, []string{"abcwait", "123"}}, {api.Cut{Keep: 1, Torn: 9}, []string{"abcwait", "1234"}}, {api.Cut{Keep: 2}, []string{"abcwait", "1234"}}, {api.Cut{Keep: 3, Torn: 9}, []string{"abcwait", "1234"}}, {api.Cut{Keep: math.MaxInt}, []string{"abcwait", "1234"}},
	} {
		for _, after := range []int{0, -1, math.MinInt} {
			c.cut.After = after
			d := cut(t, c.cut)
			if e := d.Append(1, "34"); e != api.ErrDown || d.Falls() != 1 || d.Changes() != 3 {
				t.Errorf("%d: %v, %d falls, %d changes", i, e, d.Falls(), d.Changes())
			}
			down(t, d)
			d.Up()
			holds(t, d, c.want...)
			oks(t, d.Append(1, "x"), d.Trim(1, 0), d.Empty(0)) // it struck once
		}
	}
}

// 10.2: a cut at a change that trims, and at one that empties: made if it is kept, and never torn.
func TestCutAtOtherChanges(t *testing.T) {
	for keep, want := range [][]string{{"abc", "12"}, {"abcwait", "12"}, {"a", "12"}} {
		d := cut(t, api.Cut{Keep: keep})
		if e := d.Trim(0, 1); e != api.ErrDown {
			t.Errorf("Trim at a cut: %v", e)
		}
		d.Up()
		holds(t, d, want...)
	}
	for keep, want := range [][]string{{"abcwait", "12"}, {"abcwait", "12"}, {"", "12"}} {
		d := cut(t, api.Cut{Keep: keep, Torn: 9})
		if e := d.Empty(0); e != api.ErrDown {
			t.Errorf("Empty at a cut: %v", e)
		}
		d.Up()
		holds(t, d, want...)
	}
	d := cut(t, api.Cut{Keep: 2})
	if e := d.Append(0, ""); e != api.ErrDown {
		t.Errorf("Append of no bytes at a cut: %v", e)
	}
}

// 10.2: what is ahead of a cut are changes alone: no calls that are refused, no Sync, no losses of power, and all kinds of changes.
func TestCutAfter(t *testing.T) {
	d := cut(t, api.Cut{After: 4, Keep: 1, Torn: 1})
	for range 3 {
		if d.Append(0, long(10)) != api.ErrFull || d.Append(2, "") != api.ErrArg || d.Trim(0, 8) != api.ErrArg || d.Empty(-1) != api.ErrArg {
			t.Error("what may not be is not refused while a cut is laid")
		}
		d.Read(0)
		d.Room(0)
	}
	oks(t, d.Append(0, ""), d.Sync(), d.Trim(0, 5), d.Empty(1))
	d.Fail(1, 0)
	down(t, d)
	d.Up()
	holds(t, d, "abcwa", "12")
	oks(t, d.Append(1, "3"), d.Sync())
	if d.Append(0, long(5)) != api.ErrFull || d.Trim(1, 4) != api.ErrArg || d.Down() {
		t.Error("a cut strikes at a call that is refused")
	}
	if e := d.Append(1, "45"); e != api.ErrDown || d.Falls() != 2 || d.Changes() != 7 {
		t.Errorf("at the cut: %v, %d falls, %d changes", e, d.Falls(), d.Changes())
	}
	d.Up()
	holds(t, d, "abcwa", "12345")
	oks(t, d.Empty(0), d.Empty(0), d.Empty(0), d.Empty(0), d.Empty(0), d.Empty(0))
}

// 10.2: a cut takes the place of one that was; one can be laid on a disk that is down, too.
func TestCutInPlaceOfAnother(t *testing.T) {
	d := cut(t, api.Cut{})
	d.Lay(api.Cut{After: 2, Keep: 1})
	oks(t, d.Append(1, "3"))
	d.Lay(api.Cut{After: 1, Keep: 2, Torn: 1})
	oks(t, d.Append(1, "4"))
	if e := d.Append(1, "5"); e != api.ErrDown {
		t.Errorf("at the cut: %v", e)
	}
	d.Lay(api.Cut{After: 1, Keep: 9})
	d.Up()
	holds(t, d, "abcwait", "1234")
	oks(t, d.Append(1, "x"))
	if e := d.Append(1, "y"); e != api.ErrDown {
		t.Errorf("at the cut: %v", e)
	}
	d.Up()
	holds(t, d, "abcwait", "1234xy")
	d.Lay(api.Cut{After: math.MaxInt})
	for range 100 {
		oks(t, d.Empty(0))
	}
}

// 10.2: a clone is the same, with what waits, what was counted, the cut, and whether it is down; what is done to one of both is done to it alone.
func TestClone(t *testing.T) {
	d := cut(t, api.Cut{After: 2, Keep: 2, Torn: 1})
	oks(t, d.Append(1, "3"))
	c := d.Clone()
	oks(t, d.Append(0, "z"))
	holds(t, c, "abcwait", "123")
	if c.Waits() != 2 || c.Changes() != 4 || c.Falls() != 0 || c.Extents() != 2 || c.Room(0) != 2 || c.Room(1) != 6 {
		t.Errorf("the clone: %d wait, %d changes", c.Waits(), c.Changes())
	}
	oks(t, c.Append(0, "Q"))
	holds(t, d, "abcwaitz", "123")
	if e := d.Append(1, "4"); e != api.ErrDown {
		t.Errorf("at the cut: %v", e)
	}
	if c.Down() || c.Falls() != 0 {
		t.Error("the clone is down")
	}
	gone := d.Clone()
	down(t, gone)
	if gone.Falls() != 1 || gone.Changes() != 5 || !gone.Up() || !d.Down() {
		t.Error("the clone of a disk that is down is another one")
	}
	holds(t, gone, "abcwaitz", "123")
	if e := c.Empty(1); e != api.ErrDown || c.Falls() != 1 {
		t.Errorf("at the clone's cut: %v", e)
	}
	c.Up()
	holds(t, c, "abcwaitQ", "123")
	oks(t, c.Empty(0), c.Append(0, "other"), c.Sync())
	d.Up()
	holds(t, d, "abcwaitz", "123")
	free := disk.New(1, 5).Clone()
	oks(t, free.Append(0, "12345"), free.Sync(), free.Trim(0, 2), free.Append(0, "ab"))
	left := free.Clone()
	oks(t, free.Trim(0, 0), free.Append(0, "XXXXX"), free.Sync())
	left.Fail(1, 1)
	left.Up()
	holds(t, left, "12a")
}

// model is a disk as the document's words say: extents that are sure, and the changes that wait, which are made again for each look.
type model struct {
	room, changes, falls int
	sure                 []string
	waits                []func(l []string)
	tails                []func(l []string, torn int) // what a change leaves of itself, when it is torn
	down, laid           bool
	cut                  api.Cut
}

func (m *model) now() []string {
	l := slices.Clone(m.sure)
	for _, f := range m.waits {
		f(l)
	}
	return l
}

func (m *model) fail(keep, torn int) {
	if m.down {
		return
	}
	for i, f := range m.waits {
		if i < keep {
			f(m.sure)
		} else if i == max(keep, 0) && torn > 0 {
			m.tails[i](m.sure, torn)
		}
	}
	m.waits, m.tails, m.down, m.falls = nil, nil, true, m.falls+1
}

func (m *model) sync() api.Errno {
	if m.down {
		return api.ErrDown
	}
	m.sure, m.waits, m.tails = m.now(), nil, nil
	return api.OK
}

// change is what a change answers: e, if it may not be made.
func (m *model) change(e api.Errno, f func([]string), tail func([]string, int)) api.Errno {
	if e != api.OK {
		return e
	}
	m.waits, m.tails = append(m.waits, f), append(m.tails, tail)
	if m.laid && m.cut.After <= 0 {
		m.laid = false
		m.fail(m.cut.Keep, m.cut.Torn)
		return api.ErrDown
	}
	m.cut.After--
	m.changes++
	return api.OK
}

func (m *model) wrong(x int) api.Errno {
	switch {
	case m.down:
		return api.ErrDown
	case x < 0 || x >= len(m.sure):
		return api.ErrArg
	}
	return api.OK
}

func (m *model) append(x int, s string) api.Errno {
	e := m.wrong(x)
	if e == api.OK && len(m.now()[x])+len(s) > m.room {
		e = api.ErrFull
	}
	return m.change(e, func(l []string) { l[x] += s }, func(l []string, torn int) { l[x] += s[:min(torn, len(s))] })
}

func (m *model) trim(x, n int) api.Errno {
	e := m.wrong(x)
	if e == api.OK && (n < 0 || n > len(m.now()[x])) {
		e = api.ErrArg
	}
	return m.change(e, func(l []string) { l[x] = l[x][:n] }, func([]string, int) {})
}

func (m *model) empty(x int) api.Errno {
	return m.change(m.wrong(x), func(l []string) { l[x] = "" }, func([]string, int) {})
}

func (m *model) clone() *model {
	c := *m
	c.sure, c.waits, c.tails = slices.Clone(m.sure), slices.Clone(m.waits), slices.Clone(m.tails)
	return &c
}

// same asks whether a disk is what the model says.
func same(t *testing.T, d *disk.Disk, m *model) {
	t.Helper()
	if d.Down() != m.down || d.Extents() != len(m.sure) || d.Waits() != len(m.waits) || d.Changes() != m.changes || d.Falls() != m.falls {
		t.Fatalf("down %v, %d wait, %d changes, %d falls, not %v, %d, %d, %d", d.Down(), d.Waits(), d.Changes(), d.Falls(), m.down, len(m.waits), m.changes, m.falls)
	}
	for x, want := range m.now() {
		e, room := api.OK, m.room-len(want)
		if m.down {
			want, e, room = "", api.ErrDown, 0
		}
		if s, f := d.Read(x); s != want || f != e || d.Room(x) != room {
			t.Fatalf("extent %d: %q, %v, room %d, not %q, %v, %d", x, s, f, d.Room(x), want, e, room)
		}
	}
}

// 10.1, 10.2: of any calls, one behind the other, the disk, and a clone that goes on beside it, answer what the document's words say.
func TestAnyCalls(t *testing.T) {
	r := rand.New(rand.NewSource(1))
	letters := "abcdefghijklmnopqrstuvwxyz"
	for range 300 {
		extents, room := 1+r.Intn(3), 1+r.Intn(12)
		d, m := disk.New(extents, room), &model{room: room, sure: make([]string, extents)}
		e, n := d.Clone(), m.clone() // they go on beside these
		for i := range 150 {
			x, k := r.Intn(extents+1)-r.Intn(12)/11, r.Intn(8)-1
			var got, want api.Errno
			switch r.Intn(16) {
			case 0, 1, 2, 3, 4:
				s := letters[i%20:][:r.Intn(7)]
				got, want = d.Append(x, s), m.append(x, s)
			case 5, 6:
				got, want = d.Trim(x, k), m.trim(x, k)
			case 7:
				got, want = d.Empty(x), m.empty(x)
			case 8, 9:
				got, want = d.Sync(), m.sync()
			case 10:
				torn := r.Intn(6) - 1
				d.Fail(k, torn)
				m.fail(k, torn)
			case 11:
				c := api.Cut{After: r.Intn(8) - 1, Keep: k, Torn: r.Intn(6) - 1}
				d.Lay(c)
				m.laid, m.cut = true, c
			case 12:
				e, n = d.Clone(), m.clone()
			case 13:
				d, m, e, n = e, n, d, m
			default:
				if up := d.Up(); up != m.down {
					t.Fatalf("Up: %v", up)
				}
				m.down = false
			}
			if got != want {
				t.Fatalf("%v, not %v", got, want)
			}
			same(t, d, m)
			same(t, e, n)
		}
	}
}

// 10.3: wherever the power fails, what was synced stays, and of the others a beginning is there, but for bytes that are torn off.
func TestItFollows(t *testing.T) {
	r := rand.New(rand.NewSource(2))
	for range 200 {
		d := disk.New(2, 12)
		do := func() {
			switch x := r.Intn(2); r.Intn(5) {
			case 0:
				s, _ := d.Read(x)
				d.Trim(x, r.Intn(len(s)+1))
			case 1:
				d.Empty(x)
			default:
				d.Append(x, long(r.Intn(4))+string(byte('a'+r.Intn(26))))
			}
		}
		for range 6 {
			do()
		}
		oks(t, d.Sync())
		stages := [][]string{all(t, d)}
		for range 6 {
			waits := d.Waits()
			if do(); d.Waits() > waits { // not one that is refused
				stages = append(stages, all(t, d))
			}
		}
		for keep := -1; keep <= len(stages); keep++ {
			for torn := -1; torn < 6; torn++ {
				c := d.Clone()
				c.Fail(keep, torn)
				c.Up()
				begins(t, all(t, c), stages, min(max(keep, 0), len(stages)-1), torn)
			}
		}
		oks(t, d.Sync())
		d.Fail(0, 0)
		d.Up()
		holds(t, d, stages[len(stages)-1]...)
	}
}

// begins asks whether extents are those behind the first so many changes, with at most so many bytes of the next one, of which nothing else is there.
func begins(t *testing.T, got []string, stages [][]string, keep, torn int) {
	t.Helper()
	for x, s := range stages[keep] {
		rest, is := strings.CutPrefix(got[x], s)
		next := s
		if keep+1 < len(stages) {
			next = stages[keep+1][x]
		}
		if more, appended := strings.CutPrefix(next, s); !is || appended && rest != more[:min(max(torn, 0), len(more))] || !appended && rest != "" {
			t.Errorf("extent %d: %q of %q and %q, torn %d", x, got[x], s, next, torn)
		}
	}
}
