package journal_test

import (
	"testing"

	"lockbox/api"
	"lockbox/disk"
	"lockbox/journal"
)

// run does calls to the journal of a disk, until the power fails: how many were answered without an error, and whether one was under way.
func run(t *testing.T, d *disk.Disk, calls []call) (done int, cut bool) {
	t.Helper()
	j, err := journal.Open(d)
	if err != nil {
		isFault(t, err, "journal", 0, api.ErrDown)
		if j != nil || !d.Down() {
			t.Fatal("Open: a journal, or a disk that is up")
		}
		return 0, true
	}
	for i, c := range calls {
		if err := c.toJournal(j); err != nil {
			isFault(t, err, "journal", 0, api.ErrDown)
			if !d.Down() {
				t.Fatal("the disk is up")
			}
			is(t, j.Book(), bookOf(t, calls[:i]))
			if j.Len() != i {
				t.Fatalf("Len: %d, not %d", j.Len(), i)
			}
			d.Up()
			isFault(t, c.toJournal(j), "journal", 0, api.ErrDown)
			return i, true
		}
	}
	return len(calls), false
}

// turning is work in which the segments are full soon.
func turning() []call {
	var l []call
	for id := 1; id <= 9; id++ {
		l = append(l, puts(api.Request{ID: id, Who: "bob", Reason: string(make([]byte, 120)), Expires: 50}, 0))
		if id%2 == 0 {
			l = append(l, approves(id, 1))
		}
	}
	return l
}

// 22.2, 22.3, P3: wherever a cut strikes, whatever of what waits stays, and however much is torn: what was answered without an error is there, and nothing else, but what was under way; what is done then is there, too.
func TestCutAnywhere(t *testing.T) {
	for _, calls := range [][]call{work(), turning()} {
		there, lost := 0, 0
		for after := 0; ; after++ {
			cut := false
			for keep := range 4 {
				for _, torn := range []int{0, 1, 9, 30, 2000} {
					d := disk.New(5, 1024)
					d.Lay(api.Cut{After: after, Keep: keep, Torn: torn})
					var done int
					if done, cut = run(t, d, calls); !cut {
						continue
					}
					d.Up()
					j := open(t, d)
					switch j.Len() {
					case done + 1:
						there++
						done++
					case done:
						lost++
					}
					has(t, j, d, calls[:done])
					goesOn(t, d, calls, done)
				}
			}
			if !cut {
				break
			}
		}
		if there == 0 || lost == 0 {
			t.Errorf("what was under way was there %d times, and was lost %d times", there, lost)
		}
	}
}

// goesOn lets the power fail once more, while a journal that has some calls is opened, or at the next one; the others can still be done.
func goesOn(t *testing.T, d *disk.Disk, calls []call, done int) {
	t.Helper()
	for after := range 3 {
		c := d.Clone()
		c.Fail(0, 0)
		c.Up()
		c.Append(0, "\xe5") // torn bytes, so that Open has a change to make
		c.Sync()
		c.Lay(api.Cut{After: after, Torn: 4})
		n := done
		if j, err := journal.Open(c); err == nil && n < len(calls) && calls[n].toJournal(j) == nil {
			n++
		}
		c.Up()
		c.Lay(api.Cut{After: 1 << 40})
		j := open(t, c)
		has(t, j, c, calls[:n])
		for _, x := range calls[n:] {
			if err := x.toJournal(j); err != nil {
				t.Fatal(err)
			}
		}
		has(t, j, c, calls)
	}
}

// 22.1: where the power fails while a journal is opened, it fails on the disk itself.
func TestCutInOpen(t *testing.T) {
	for after := range 4 {
		d := disk.New(3, 1024)
		d.Lay(api.Cut{After: after})
		j, err := journal.Open(d)
		if after == 3 { // a new store needs three changes
			if err != nil || d.Down() {
				t.Errorf("Open: %v", err)
			}
			continue
		}
		isFault(t, err, "journal", 0, api.ErrDown)
		if j != nil || !d.Down() || d.Falls() != 1 {
			t.Error("the power did not fail")
		}
		d.Up()
		has(t, open(t, d), d, nil)
	}
}

// 22.1: a store that is ill, and whose power fails while it is opened: the store's error is told.
func TestCutInOpenOfIll(t *testing.T) {
	d := holding(t, "junk")
	d.Append(2, "\xe5")
	d.Lay(api.Cut{})
	_, err := journal.Open(d)
	isFault(t, err, "journal", 0, api.ErrDown)
	d.Up()
	_, err = journal.Open(d)
	isFault(t, err, "journal", 0, api.ErrForm)
}
