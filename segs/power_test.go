package segs_test

import (
	"math/rand"
	"slices"
	"testing"

	"lockbox/api"
	"lockbox/disk"
	"lockbox/segs"
)

// run is what was done to a store until the power failed.
type run struct {
	s     *segs.Store // none, if the power failed while the store was opened
	done  []string    // the records whose Append was answered with OK
	under string      // the one under whose Append the power failed
	sure  int         // what Sure told last
	ended bool        // the power did not fail
}

// do appends records to the store of a disk (of none it syncs), until the power fails. A call at which it does changes nothing of what the store tells.
func do(t *testing.T, d *disk.Disk, work []string) run {
	t.Helper()
	s, e := segs.Open(d)
	if e != api.OK {
		if s != nil || e != api.ErrDown || !d.Down() {
			t.Fatalf("Open: %v", e)
		}
		return run{}
	}
	x := run{s: s, done: s.All(), sure: s.Sure()}
	for _, r := range work {
		was := tell(t, s)
		if r == "" {
			e = s.Sync()
		} else {
			_, e = s.Append(r)
		}
		if e == api.ErrDown {
			if !tell(t, s).same(was) || !d.Down() {
				t.Fatalf("a call at which the power fails changes what the store tells")
			}
			x.under = r
			return x
		}
		if e != api.OK {
			t.Fatalf("%.10q: %v", r, e)
		}
		if r != "" {
			x.done = append(x.done, r)
		}
		x.sure = s.Sure()
	}
	x.ended = true
	return x
}

// holds asks whether a store that is opened again has what was sure, and of the others a beginning; what was found it has for good.
func holds(t *testing.T, d *disk.Disk, x run) *segs.Store {
	t.Helper()
	s := open(t, d)
	got := tell(t, s)
	all := x.done
	if x.under != "" {
		all = append(slices.Clone(all), x.under)
	}
	if n := len(got.all); n < x.sure || n > len(all) || !slices.Equal(got.all, all[:n]) {
		t.Fatalf("of %d records, %d sure, there are %d", len(all), x.sure, n)
	}
	if got.sure != len(got.all) || d.Waits() != 0 {
		t.Fatalf("opened again %d of %d are sure, %d changes wait", got.sure, len(got.all), d.Waits())
	}
	has, changes := bytesOf(t, d), d.Changes()
	if again := tell(t, open(t, d)); !again.same(got) {
		t.Fatalf("opened once more: %d records, segments %v, not %d, %v", len(again.all), again.segments, len(got.all), got.segments)
	}
	if d.Changes() != changes || !slices.Equal(bytesOf(t, d), has) {
		t.Fatalf("opened once more, with changes")
	}
	return s
}

// works are records and syncs in which a few turns come.
func works() [][]string {
	a, b, c := long(900), long(500), long(89)
	return [][]string{
		{"a", "b", "", "c"},
		{"a", "", a, "b", a, "c", "", "d"},
		{b, b, b, "", b, "x"},
		{a, c, a, c, c, ""},
		{a, a, a},
		{"", "", a, "", "", "y", ""},
	}
}

// 12.4: wherever a cut strikes, whatever of what waits stays, and however much is torn: what was sure is there, and of the others a beginning; so it is if the power fails once more while the store is opened.
func TestCutAnywhere(t *testing.T) {
	for _, work := range works() {
		for after := 0; ; after++ {
			ended := false
			for keep := range 6 {
				for _, torn := range []int{0, 1, 8, 18, 19, 60, 2000} {
					d := disk.New(6, 1024)
					d.Lay(api.Cut{After: after, Keep: keep, Torn: torn})
					x := do(t, d, work)
					if ended = x.ended; !ended {
						opened(t, d, x)
					}
				}
			}
			if ended {
				break
			}
		}
	}
}

// opened opens a store behind a loss of power; cuts may strike meanwhile.
func opened(t *testing.T, d *disk.Disk, x run) {
	t.Helper()
	for after := range 4 {
		for keep := range 2 {
			for _, torn := range []int{0, 3} {
				c := d.Clone()
				c.Up()
				c.Lay(api.Cut{After: after, Keep: keep, Torn: torn})
				if s, e := segs.Open(c); e == api.ErrDown && s == nil && c.Down() {
					c.Up()
				} else if e != api.OK {
					t.Fatalf("Open: %v", e)
				}
				c.Lay(api.Cut{After: 1 << 40})
				goesOn(t, c, holds(t, c, x))
			}
		}
	}
}

// goesOn asks whether what a store gets from now on is there for good, too.
func goesOn(t *testing.T, d *disk.Disk, s *segs.Store) {
	t.Helper()
	want := s.All()
	for _, r := range []string{"more", long(600)} {
		n, e := s.Append(r)
		if e == api.ErrFull {
			break
		}
		if n != len(want) || e != api.OK {
			t.Fatalf("Append: %d, %v", n, e)
		}
		want = append(want, r)
	}
	if e := s.Sync(); e != api.OK {
		t.Fatalf("Sync: %v", e)
	}
	d.Fail(0, 0)
	d.Up()
	if got := tell(t, open(t, d)); !slices.Equal(got.all, want) {
		t.Fatalf("of %d records that were sure there are %d", len(want), len(got.all))
	}
}

// 12.4: the power fails between calls: of what waits the first ones stay, and bytes of the next one.
func TestFailBetweenCalls(t *testing.T) {
	for _, work := range works() {
		for n := range len(work) + 1 {
			for keep := range 6 {
				for _, torn := range []int{0, 1, 4, 8, 9, 500, 2000} {
					d := disk.New(6, 1024)
					x := do(t, d, work[:n])
					waits := len(x.done) - x.sure
					d.Fail(keep, torn)
					d.Up()
					s := holds(t, d, x)
					if whole := x.sure + min(keep, waits); torn <= 8 && s.Len() != whole || s.Len() < whole {
						t.Fatalf("%d of %d were sure, %d kept: there are %d", x.sure, len(x.done), keep, s.Len())
					}
					goesOn(t, d, s)
				}
			}
		}
	}
}

// 12.1: if the power fails while a disk gets its store, or is trimmed, Open answers ErrDown; opened again it is a store.
func TestCutInOpen(t *testing.T) {
	torn := func() *disk.Disk {
		return holding(t, 1024, listOf(1, 2)+"\xe5", "\xe5\x00", headOf(0, 0)+recordsOf("a")+"\xe5")
	}
	for i, c := range []struct {
		d    *disk.Disk
		cuts int
		want []string
	}{{disk.New(3, 1024), 3, nil}, {torn(), 3, []string{"a"}}, {holding(t, 1024, listOf(1, 2), "", headOf(0, 0)), 0, nil}} {
		for after := range 5 {
			for keep := range 5 {
				d := c.d.Clone()
				d.Lay(api.Cut{After: after, Keep: keep, Torn: 3})
				want := api.OK
				if after < c.cuts {
					want = api.ErrDown
				}
				if s, e := segs.Open(d); e != want || (s != nil) != (e == api.OK) {
					t.Errorf("%d: a cut behind %d: %v, not %v", i, after, e, want)
				}
				if d.Up() != (want == api.ErrDown) {
					t.Errorf("%d: a cut behind %d: the disk is otherwise", i, after)
				}
				d.Lay(api.Cut{After: 1 << 40})
				if got := tell(t, open(t, d)); !slices.Equal(got.all, c.want) || !slices.Equal(got.segments, []int{len(c.want)}) {
					t.Errorf("%d: a cut behind %d: %q", i, after, got.all)
				}
			}
		}
	}
}

// 12.2: the power fails within a turn: at each of its changes, also where the other extent of lists is emptied.
func TestCutInTurn(t *testing.T) {
	d := disk.New(64, 1024)
	s := open(t, d)
	for i := range 60 {
		if _, e := s.Append(long(900)); e != api.OK {
			t.Fatal(e)
		}
		d.Sync()
		for after := range 5 {
			for keep := range 3 {
				for _, torn := range []int{0, 5} {
					c := d.Clone()
					other := open(t, c)
					was := tell(t, other)
					c.Lay(api.Cut{After: after, Keep: keep, Torn: torn})
					_, e := other.Append(long(900))
					if e == api.OK {
						continue
					}
					if e != api.ErrDown || !tell(t, other).same(was) {
						t.Fatalf("segment %d: %v", i, e)
					}
					c.Up()
					goesOn(t, c, holds(t, c, run{done: was.all, sure: was.sure, under: long(900)}))
				}
			}
		}
	}
}

// 12.2, P3: a turn makes the head, and all records ahead of it, sure before it lays the list.
func TestTurnIsSureAheadOfList(t *testing.T) {
	d := disk.New(4, 1024)
	s := open(t, d)
	s.Append("a")
	s.Append(long(900))
	d.Lay(api.Cut{After: 2}) // at the list
	if _, e := s.Append(long(900)); e != api.ErrDown {
		t.Fatal(e)
	}
	d.Up()
	want := []string{listOf(1, 2), "", headOf(0, 0) + recordsOf("a", long(900)), headOf(1, 2)}
	if got := bytesOf(t, d); !slices.Equal(got, want) {
		t.Errorf("the disk has %x, not %x", got, want)
	}
	if got := tell(t, open(t, d)); !got.same(told{all: []string{"a", long(900)}, sure: 2, segments: []int{2}, left: 1}) {
		t.Errorf("opened again: %d records, segments %v", len(got.all), got.segments)
	}
}

// 12.4, P3: whatever is done, and wherever the power fails, again and again, also while the store is opened, what was told to be sure is never lost.
func TestPowerFailsOften(t *testing.T) {
	r := rand.New(rand.NewSource(3))
	for range 60 {
		d := disk.New(3+r.Intn(20), 1024+r.Intn(200))
		var sure []string
		for range 40 {
			d.Up()
			if r.Intn(3) > 0 {
				d.Lay(api.Cut{After: r.Intn(12), Keep: r.Intn(6), Torn: r.Intn(40)})
			}
			s, e := segs.Open(d)
			if e == api.ErrDown {
				continue
			}
			if e != api.OK {
				t.Fatalf("Open: %v", e)
			}
			all := s.All()
			if len(all) < len(sure) || !slices.Equal(all[:len(sure)], sure) {
				t.Fatalf("of %d that were sure there are %d", len(sure), len(all))
			}
			for range r.Intn(20) {
				if r.Intn(4) == 0 {
					e = s.Sync()
				} else {
					_, e = s.Append(text(r, 1+r.Intn(300)))
				}
				if e == api.ErrDown {
					break
				}
			}
			sure = s.All()[:s.Sure()]
			if r.Intn(2) == 0 {
				d.Fail(r.Intn(6), r.Intn(300))
			}
		}
	}
}
