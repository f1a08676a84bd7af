package journal_test

import (
	"errors"
	"slices"
	"strings"
	"testing"

	"lockbox/api"
	"lockbox/disk"
	"lockbox/journal"
	"lockbox/request"
	"lockbox/segs"
)

// num, text and list are items as the words of layer 2 write them.
func num(n int) string {
	s := ""
	for ; n > 0; n /= 256 {
		s = string([]byte{byte(n)}) + s
	}
	return string([]byte{byte(len(s))}) + s
}

func text(s string) string { return "\x08" + num(len(s)) + s }

func list(l ...string) string { return "\x09" + num(len(l)) + strings.Join(l, "") }

// The records as the document's words say.
func put(q api.Request, now int) string {
	asks := list(num(q.ID), text(q.Who), num(q.Entry), text(q.Reason), num(q.Expires))
	return list(num(0), text(asks), num(now))
}

func approve(id, now int) string { return list(num(1), num(id), num(now)) }

func deny(id, now int) string { return list(num(2), num(id), num(now)) }

func revoke(id int, who string, now int) string {
	return list(num(3), num(id), text(who), num(now))
}

// of is a request of bob's, up to 50.
func of(id int) api.Request {
	return api.Request{ID: id, Who: "bob", Entry: id, Reason: "why", Expires: 50}
}

// call is something that is done to a journal, to a book, and the record of it.
type call struct {
	toJournal func(*journal.Journal) error
	toBook    func(*request.Book) error
	record    string
}

func puts(q api.Request, now int) call {
	return call{func(j *journal.Journal) error { return j.Put(q, now) }, func(b *request.Book) error { return b.Put(q, now) }, put(q, now)}
}

func approves(id, now int) call {
	return call{func(j *journal.Journal) error { return j.Approve(id, now) }, func(b *request.Book) error { return b.Approve(id, now) }, approve(id, now)}
}

func denies(id, now int) call {
	return call{func(j *journal.Journal) error { return j.Deny(id, now) }, func(b *request.Book) error { return b.Deny(id, now) }, deny(id, now)}
}

func revokes(id int, who string, now int) call {
	return call{func(j *journal.Journal) error { return j.Revoke(id, who, now) }, func(b *request.Book) error { return b.Revoke(id, who, now) }, revoke(id, who, now)}
}

// bookOf is the book that calls make.
func bookOf(t *testing.T, calls []call) *request.Book {
	t.Helper()
	b := request.New()
	for i, c := range calls {
		if err := c.toBook(b); err != nil {
			t.Fatalf("call %d: %v", i, err)
		}
	}
	return b
}

// is asks whether a book is the same as another one.
func is(t *testing.T, b, want *request.Book) {
	t.Helper()
	if b == nil || !slices.Equal(b.IDs(), want.IDs()) {
		t.Fatalf("IDs: %v, not %v", b.IDs(), want.IDs())
	}
	for _, id := range want.IDs() {
		x, _ := b.Get(id)
		y, _ := want.Get(id)
		if x != y {
			t.Fatalf("Get of %d: %v, not %v", id, x, y)
		}
		for _, now := range []int{0, 1 << 40} {
			if b.State(id, now) != want.State(id, now) {
				t.Fatalf("State of %d at %d: %d, not %d", id, now, b.State(id, now), want.State(id, now))
			}
		}
	}
}

// has asks whether a journal has just what calls make, and a disk their records, for good.
func has(t *testing.T, j *journal.Journal, d *disk.Disk, calls []call) {
	t.Helper()
	is(t, j.Book(), bookOf(t, calls))
	if j.Len() != len(calls) {
		t.Fatalf("Len: %d, not %d", j.Len(), len(calls))
	}
	if d.Waits() != 0 {
		t.Fatalf("%d changes wait", d.Waits())
	}
	c := d.Clone()
	c.Lay(api.Cut{After: 1 << 40})
	c.Up()
	s, e := segs.Open(c)
	if e != api.OK {
		t.Fatalf("the store: %v", e)
	}
	records := s.All()
	if len(records) != len(calls) {
		t.Fatalf("%d records, not %d", len(records), len(calls))
	}
	for i, c := range calls {
		if records[i] != c.record {
			t.Fatalf("record %d: %x, not %x", i, records[i], c.record)
		}
	}
}

// open opens a journal that there must be.
func open(t *testing.T, d *disk.Disk) *journal.Journal {
	t.Helper()
	j, err := journal.Open(d)
	if err != nil || j == nil {
		t.Fatalf("Open: %v", err)
	}
	return j
}

// isFault asks whether an error is a fault that wraps e.
func isFault(t *testing.T, err error, op string, n int, e api.Errno) {
	t.Helper()
	f, ok := err.(*api.Fault)
	if !ok || f == nil || *f != (api.Fault{Op: op, N: n, Err: e}) || !errors.Is(err, e) || api.Code(err) != e {
		t.Fatalf("%#v, not %s, %d, %v", err, op, n, e)
	}
}

// holding is a disk whose store has some records, for good.
func holding(t *testing.T, records ...string) *disk.Disk {
	t.Helper()
	d := disk.New(4, 1024)
	s, e := segs.Open(d)
	for _, r := range records {
		if e == api.OK {
			_, e = s.Append(r)
		}
	}
	if e == api.OK {
		e = s.Sync()
	}
	if e != api.OK {
		t.Fatal(e)
	}
	return d
}

// told is all that a disk tells.
func told(t *testing.T, d *disk.Disk) []string {
	t.Helper()
	l := []string{num(d.Changes()), num(d.Waits()), num(d.Falls())}
	for x := range d.Extents() {
		s, e := d.Read(x)
		if e != api.OK {
			t.Fatal(e)
		}
		l = append(l, s)
	}
	return l
}

// work is a journal's work in which everything is done once or more.
func work() []call {
	eve := api.Request{ID: 4, Who: "eve", Reason: strings.Repeat("\xff", 120), Expires: 9}
	return []call{puts(of(1), 0), approves(1, 3), puts(of(2), 3), puts(eve, 9), denies(2, 50), revokes(4, "eve", 9), puts(of(3), 2), revokes(1, "bob", 4), approves(3, 1)}
}
