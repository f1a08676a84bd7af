package journal_test

import (
	"math"
	"slices"
	"strings"
	"testing"
	"unsafe"

	"lockbox/api"
	"lockbox/disk"
	"lockbox/journal"
	"lockbox/segs"
)

// 22.3: the document's example.
func TestExample(t *testing.T) {
	d := disk.New(3, 1024)
	j := open(t, d)
	j.Put(of(1), 0)
	j.Approve(1, 0)
	d.Fail(0, 0)
	d.Up()
	if s := open(t, d).Book().State(1, 0); s != api.StateApproved {
		t.Errorf("State: %d", s)
	}
}

// 22.1, 22.2: what is done is a record each, as the words say, for good ahead of the answer, and opened again it is the same.
func TestRecords(t *testing.T) {
	d := disk.New(4, 1024)
	j := open(t, d)
	has(t, j, d, nil)
	calls := work()
	for i, c := range calls {
		if err := c.toJournal(j); err != nil {
			t.Fatalf("call %d: %v", i, err)
		}
		has(t, j, d, calls[:i+1])
		other := d.Clone()
		other.Fail(0, 0)
		other.Up()
		has(t, open(t, other), other, calls[:i+1])
	}
	again := open(t, d)
	more := append(calls, puts(of(9), 5), approves(9, 5))
	for _, c := range more[len(calls):] {
		if err := c.toJournal(again); err != nil {
			t.Fatal(err)
		}
	}
	has(t, again, d, more)
}

// 22.1: records of another maker are read, up to the greatest that there may be.
func TestOpenOfRecords(t *testing.T) {
	great := api.Request{ID: 1 << 20, Who: strings.Repeat("z", 24), Entry: 4095, Reason: strings.Repeat("\xff", 120), Expires: 1 << 40}
	for _, calls := range [][]call{nil, work(), {puts(great, 1<<40), approves(1<<20, 1<<40), revokes(1<<20, great.Who, 1<<40)}, {puts(great, 0), denies(1<<20, 1<<40)}} {
		var records []string
		for _, c := range calls {
			records = append(records, c.record)
		}
		d := holding(t, records...)
		has(t, open(t, d), d, calls)
	}
}

// 22.1: the store's error.
func TestOpenOfWrongDisk(t *testing.T) {
	junk := disk.New(3, 1024)
	junk.Append(1, "junk")
	down := disk.New(3, 1024)
	down.Fail(0, 0)
	for _, c := range []struct {
		d    *disk.Disk
		want api.Errno
	}{{nil, api.ErrDown}, {down, api.ErrDown}, {disk.New(2, 1024), api.ErrArg}, {disk.New(3, 1023), api.ErrArg}, {junk, api.ErrForm}} {
		j, err := journal.Open(c.d)
		if j != nil {
			t.Errorf("Open: a journal beside %v", err)
		}
		isFault(t, err, "journal", 0, c.want)
	}
	if d := disk.New(3, 1024); open(t, d).Len() != 0 || d.Changes() == 0 {
		t.Error("a disk without a store gets none")
	}
}

// ill asks whether a store with some records is no journal, and whether its disk stays as it is, with what waits, and what is torn.
func ill(t *testing.T, records ...string) {
	t.Helper()
	clean := holding(t, records...)
	torn := clean.Clone()
	torn.Append(2, "\xe5\x00")
	torn.Append(0, "\xe5")
	for _, d := range []*disk.Disk{clean, torn} {
		was := told(t, d)
		j, err := journal.Open(d)
		if j != nil {
			t.Errorf("Open of %x: a journal", records)
		}
		isFault(t, err, "journal", 0, api.ErrForm)
		if !slices.Equal(told(t, d), was) {
			t.Errorf("Open of %x changes the disk", records)
		}
	}
}

// 22.1: records that can't be read, ahead of others and behind them.
func TestOpenOfIll(t *testing.T) {
	asks := list(num(1), text("bob"), num(1), text("why"), num(50))
	if put(of(1), 0) != list(num(0), text(asks), num(0)) {
		t.Fatalf("a record: %x", put(of(1), 0))
	}
	good := work()
	for _, x := range []string{
		"junk", "\x00", "\x09", "\xff", strings.Repeat("x", 900), list(), list(list()), num(0), num(1), text(""), text(put(of(5), 0)), list(put(of(5), 0)), put(of(5), 0) + "\x00", put(of(5), 0) + put(of(6), 0), put(of(5), 0)[1:], put(of(5), 0)[:20],
		list(num(0)), list(text(asks)), list(num(0), text(asks)), list(text(asks), num(0)), list(num(0), num(0)), list(num(0), text(asks), num(0), num(0)), list(num(0), text(asks), text("")), list(num(0), text(asks), list()), list(num(0), num(0), text(asks)), list(text(""), text(asks), num(0)), list(list(), text(asks), num(0)), list(num(0), asks, num(0)), list(num(0), num(5), num(0)), list(num(0), text(asks), "\x01\x00"), list("\x01\x00", text(asks), num(0)), "\x09\x02\x00\x03" + put(of(5), 0)[3:],
		list(num(0), text(""), num(0)), list(num(0), text("x"), num(0)), list(num(0), text(asks+"\x00"), num(0)), list(num(0), text(asks[1:]), num(0)), list(num(0), text(list(num(5), text("bob"), num(1), text("why"))), num(0)), list(num(0), text(list(num(5), text("Bob"), num(1), text("why"), num(50))), num(0)), list(num(0), text(list(num(0), text("bob"), num(1), text("why"), num(50))), num(0)), list(num(0), text(list(num(5), text("bob"), num(1), text("why"), num(1<<40+1))), num(0)),
		list(num(1)), list(num(1), num(3)), list(num(1), num(3), num(0), num(0)), list(num(1), text("\x03"), num(0)), list(num(1), num(3), text("")), list(text("\x01"), num(3), num(0)), list(num(1), num(3), list()), list(num(1), list(), num(0)), list(num(1), "\x02\x00\x03", num(0)), list(num(1), num(3), text("bob"), num(0)), list(num(1), text(asks), num(0)),
		list(num(2)), list(num(2), num(3)), list(num(2), num(3), num(0), num(0)), list(num(2), text("\x03"), num(0)), list(num(2), num(3), text("")), list(num(2), num(3), text("bob"), num(0)),
		list(num(3)), list(num(3), num(3), num(0)), list(num(3), num(3), text("bob")), list(num(3), num(3), text("bob"), num(0), num(0)), list(num(3), text("bob"), num(3), num(0)), list(num(3), num(3), num(0), num(0)), list(num(3), text(""), text("bob"), num(0)), list(num(3), num(3), text("bob"), text("")), list(num(3), text("bob"), num(0)), list(num(3), num(3), list(), num(0)),
		list(num(4), num(3), num(0)), list(num(4), num(3), text("bob"), num(0)), list(num(4), text(asks), num(0)), list(num(255), num(3), num(0)), list(num(256), num(3), num(0)), list(num(257), num(3), num(0)), list(num(api.MaxNum), num(3), num(0)), list(text("bob"), num(3), num(0)),
	} {
		var records []string
		for _, c := range good[:7] { // 3 is open, so what is asked of it could be done
			records = append(records, c.record)
		}
		ill(t, x)
		ill(t, append(records, x)...)
		ill(t, append(slices.Clone(records), x, good[7].record)...)
	}
}

// 22.1: records of which the doing is an error.
func TestOpenOfWrongDeeds(t *testing.T) {
	one := put(of(1), 0)
	for _, l := range [][]string{
		{approve(1, 0)}, {deny(1, 0)}, {revoke(1, "bob", 0)}, {one, one}, {one, put(api.Request{ID: 1, Who: "eve", Expires: 9}, 0)}, {one, put(of(2), 51)}, {one, put(of(2), 1<<40+1)}, {one, put(of(2), api.MaxNum)},
		{one, approve(2, 0)}, {one, approve(1, 51)}, {one, approve(1, 1<<40+1)}, {one, approve(0, 0)}, {one, approve(1<<20+1, 0)}, {one, approve(api.MaxNum, 0)}, {one, approve(1, api.MaxNum)}, {one, approve(1, 0), approve(1, 0)}, {one, deny(1, 0), approve(1, 0)}, {one, revoke(1, "bob", 0), approve(1, 0)},
		{one, deny(2, 0)}, {one, deny(1, 51)}, {one, deny(1, 1<<40+1)}, {one, deny(1, 0), deny(1, 0)}, {one, approve(1, 0), deny(1, 0)}, {one, revoke(1, "bob", 0), deny(1, 0)},
		{one, revoke(2, "bob", 0)}, {one, revoke(1, "eve", 0)}, {one, revoke(1, "", 0)}, {one, revoke(1, "bob", 51)}, {one, revoke(1, "bob", 1<<40+1)}, {one, revoke(1, "bob", 0), revoke(1, "bob", 0)}, {one, deny(1, 0), revoke(1, "bob", 0)},
	} {
		ill(t, l...)
		ill(t, append([]string{put(of(9), 0), approve(9, 0)}, append(l, put(of(8), 0))...)...)
	}
}

// 22.2: the book's error, with its Op; nothing is done, and the disk stays as it is.
func TestBookErrors(t *testing.T) {
	d := disk.New(4, 1024)
	j := open(t, d)
	calls := work()
	for _, c := range calls {
		if err := c.toJournal(j); err != nil {
			t.Fatal(err)
		}
	}
	was := told(t, d)
	for _, c := range []struct {
		err  error
		id   int
		want api.Errno
	}{
		{j.Put(of(1), 0), 1, api.ErrThere}, {j.Put(of(0), 0), 0, api.ErrArg}, {j.Put(api.Request{}, 0), 0, api.ErrArg}, {j.Put(of(9), -1), 9, api.ErrArg}, {j.Put(of(9), 51), 9, api.ErrLate}, {j.Put(api.Request{ID: 9, Who: strings.Repeat("x", 2000)}, 0), 9, api.ErrArg}, {j.Put(api.Request{ID: 9, Who: "bob", Reason: strings.Repeat("x", 1<<20)}, 0), 9, api.ErrArg},
		{j.Approve(3, 1), 3, api.ErrThere}, {j.Approve(9, 1), 9, api.ErrNone}, {j.Approve(3, 51), 3, api.ErrLate}, {j.Approve(1, 1), 1, api.ErrRule}, {j.Approve(2, 1), 2, api.ErrRule}, {j.Approve(3, -1), 3, api.ErrArg}, {j.Approve(math.MinInt, 1), math.MinInt, api.ErrNone},
		{j.Deny(2, 1), 2, api.ErrThere}, {j.Deny(9, 1), 9, api.ErrNone}, {j.Deny(3, 51), 3, api.ErrLate}, {j.Deny(3, 1), 3, api.ErrRule}, {j.Deny(3, 1<<40+1), 3, api.ErrArg}, {j.Deny(math.MaxInt, 1), math.MaxInt, api.ErrNone},
		{j.Revoke(1, "bob", 1), 1, api.ErrThere}, {j.Revoke(9, "bob", 1), 9, api.ErrNone}, {j.Revoke(3, "bob", 51), 3, api.ErrLate}, {j.Revoke(3, "eve", 1), 3, api.ErrRule}, {j.Revoke(3, strings.Repeat("x", 1<<20), 1), 3, api.ErrRule}, {j.Revoke(2, "bob", 1), 2, api.ErrRule}, {j.Revoke(3, "bob", math.MaxInt), 3, api.ErrArg},
	} {
		isFault(t, c.err, "request", c.id, c.want)
	}
	if !slices.Equal(told(t, d), was) {
		t.Error("calls that are refused change the disk")
	}
	has(t, j, d, calls)
}

// 22.2: when the disk is full, the book is as it was; the book's error is told ahead of the store's.
func TestFull(t *testing.T) {
	d := disk.New(3, 1024)
	j := open(t, d)
	var calls []call
	var err error
	for id := 1; err == nil; id++ {
		c := puts(api.Request{ID: id, Who: "bob", Reason: strings.Repeat("x", 100), Expires: 50}, 0)
		if err = c.toJournal(j); err == nil {
			calls = append(calls, c)
		}
	}
	if len(calls) != 7 {
		t.Fatalf("room for %d", len(calls))
	}
	was := told(t, d)
	isFault(t, err, "journal", 0, api.ErrFull)
	isFault(t, j.Put(of(1), 0), "request", 1, api.ErrThere)
	if !slices.Equal(told(t, d), was) {
		t.Error("a call that is refused changes the disk")
	}
	has(t, j, d, calls)
	for _, c := range []call{approves(1, 0), revokes(1, "bob", 0), denies(2, 0)} { // these are shorter
		if err := c.toJournal(j); err != nil {
			t.Fatal(err)
		}
		calls = append(calls, c)
	}
	has(t, j, d, calls)
	for err = nil; err == nil; {
		id := len(calls)
		c := denies(id-7, 0)
		if err = c.toJournal(j); err == nil {
			calls = append(calls, c)
		}
	}
	has(t, open(t, d), d, calls)
}

// 22.2: a disk that is down, or was: the book's error, then the store's.
func TestDown(t *testing.T) {
	d := disk.New(4, 1024)
	j := open(t, d)
	calls := []call{puts(of(1), 0), puts(of(2), 0), approves(1, 0)}
	for _, c := range calls {
		c.toJournal(j)
	}
	d.Fail(0, 0)
	for range 2 {
		for _, c := range []call{puts(of(3), 0), approves(2, 0), denies(2, 0), revokes(1, "bob", 0)} {
			isFault(t, c.toJournal(j), "journal", 0, api.ErrDown)
		}
		isFault(t, j.Put(of(2), 0), "request", 2, api.ErrThere)
		isFault(t, j.Deny(1, 0), "request", 1, api.ErrRule)
		isFault(t, j.Approve(7, 0), "request", 7, api.ErrNone)
		has(t, j, d, calls)
		d.Up()
	}
	has(t, open(t, d), d, calls)
}

// 22.2: a nil journal.
func TestNil(t *testing.T) {
	var j *journal.Journal
	isFault(t, j.Put(of(1), 0), "journal", 0, api.ErrArg)
	isFault(t, j.Put(api.Request{}, -1), "journal", 0, api.ErrArg)
	isFault(t, j.Approve(1, 0), "journal", 0, api.ErrArg)
	isFault(t, j.Deny(1, 0), "journal", 0, api.ErrArg)
	isFault(t, j.Revoke(1, "bob", 0), "journal", 0, api.ErrArg)
	if j.Book() != nil || j.Len() != 0 {
		t.Errorf("a nil journal has %v, %d", j.Book(), j.Len())
	}
}

// 22.2: Book is a copy: what is done to it does nothing to the journal, nor the other way round.
func TestBook(t *testing.T) {
	d := disk.New(4, 1024)
	j := open(t, d)
	calls := work()
	for _, c := range calls {
		c.toJournal(j)
	}
	b := j.Book()
	b.Put(of(9), 0)
	b.Revoke(3, "bob", 0)
	has(t, j, d, calls)
	b = j.Book()
	j.Put(of(9), 0)
	j.Revoke(3, "bob", 0)
	is(t, b, bookOf(t, calls))
	has(t, j, d, append(calls, puts(of(9), 0), revokes(3, "bob", 0)))
}

// R3: a journal keeps no text that was handed in, and hands out none that it keeps.
func TestNoMemoryIsShared(t *testing.T) {
	j := open(t, disk.New(4, 1024))
	q := of(1)
	j.Put(q, 0)
	a, _ := j.Book().Get(1)
	b, _ := j.Book().Get(1)
	if unsafe.StringData(a.Who) == unsafe.StringData(q.Who) || unsafe.StringData(a.Who) == unsafe.StringData(b.Who) || unsafe.StringData(a.Reason) == unsafe.StringData(b.Reason) {
		t.Error("texts are shared")
	}
}

// 22.1: a journal that goes over several segments, up to a full book.
func TestSegments(t *testing.T) {
	d := disk.New(20, 1024)
	j := open(t, d)
	var calls []call
	for id := 1; id <= 200; id++ {
		calls = append(calls, puts(of(id), id%50))
		switch id % 4 {
		case 0:
			calls = append(calls, denies(id, 50))
		case 1:
			calls = append(calls, approves(id, 3), revokes(id, "bob", 2))
		case 2:
			calls = append(calls, approves(id, 0))
		}
	}
	for i, c := range calls {
		if err := c.toJournal(j); err != nil {
			t.Fatalf("call %d: %v", i, err)
		}
	}
	isFault(t, j.Put(of(201), 0), "request", 201, api.ErrFull)
	has(t, j, d, calls)
	has(t, open(t, d), d, calls)
	if s, e := segs.Open(d.Clone()); e != api.OK || len(s.Segments()) < 5 {
		t.Errorf("%d segments, %v", len(s.Segments()), e)
	}
}
