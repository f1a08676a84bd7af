package request_test

import (
	"fmt"
	"math"
	"math/rand"
	"slices"
	"strings"
	"testing"
	"unsafe"

	"lockbox/api"
	"lockbox/request"
)

// of is a request of bob's.
func of(id, expires int) api.Request { return api.Request{ID: id, Who: "bob", Expires: expires} }

// the times at which what may be is asked, and some that are none.
var (
	times   = []int{0, 1, 8, 9, 10, 11, 1<<40 - 1, 1 << 40}
	noTimes = []int{-1, 1<<40 + 1, -1 << 40, math.MinInt, math.MaxInt}
)

// 21.2: the document's example.
func TestExample(t *testing.T) {
	b := request.New()
	isFault(t, b.Put(of(1, 9), 0), api.OK, 1)
	isFault(t, b.Approve(1, 5), api.OK, 1)
	if b.State(1, 9) != api.StateApproved || b.State(1, 10) != api.StateExpired {
		t.Errorf("State: %d, %d", b.State(1, 9), b.State(1, 10))
	}
	isFault(t, b.Deny(1, 6), api.ErrRule, 1)
}

// 21.1, 21.3: a book without requests.
func TestNew(t *testing.T) {
	b := request.New()
	if b == nil || b == request.New() || request.MaxBook != 200 {
		t.Errorf("New: %v", b)
	}
	is(t, b, &model{}, append(times, noTimes...)...)
	for _, now := range times {
		isFault(t, b.Approve(1, now), api.ErrNone, 1)
		isFault(t, b.Deny(0, now), api.ErrNone, 0)
		isFault(t, b.Revoke(-3, "bob", now), api.ErrNone, -3)
		isFault(t, b.Revoke(math.MinInt, "", now), api.ErrNone, math.MinInt)
	}
	is(t, b, &model{}, times...)
}

// 21.1: what is put is there, open, up to when it expires; what may not be is not.
func TestPut(t *testing.T) {
	for _, q := range []api.Request{of(1, 9), of(1<<20, 0), of(2, 1<<40), {ID: 3, Who: strings.Repeat("z", 24), Entry: 4095, Reason: strings.Repeat("\xff", 120), Expires: 9}, {ID: 4, Who: "-", Expires: 9}} {
		for _, now := range times {
			b := request.New()
			if now > q.Expires {
				isFault(t, b.Put(q, now), api.ErrLate, q.ID)
				is(t, b, &model{}, times...)
				continue
			}
			isFault(t, b.Put(q, now), api.OK, q.ID)
			if x, ok := b.Get(q.ID); !ok || x != q || !slices.Equal(b.IDs(), []int{q.ID}) {
				t.Errorf("Put of %v: %v, %v", q, x, ok)
			}
			for _, now := range times {
				want, open := api.StateOpen, 1
				if now > q.Expires {
					want, open = api.StateExpired, 0
				}
				if b.State(q.ID, now) != want || b.Open(q.Who, now) != open || b.Open(q.Who+"z", now) != 0 {
					t.Errorf("State of %v at %d: %d, %d open", q, now, b.State(q.ID, now), b.Open(q.Who, now))
				}
			}
		}
	}
}

// 21.1: what may not be put, and the order of errors: ErrArg, ErrThere, ErrLate.
func TestPutOfWrong(t *testing.T) {
	b, m := request.New(), &model{}
	b.Put(of(1, 9), 0)
	m.put(of(1, 9), 0)
	for _, q := range []api.Request{
		{}, of(0, 9), of(-1, 9), of(1<<20+1, 9), of(math.MinInt, 9), of(math.MaxInt, 9), {ID: 2}, {ID: 2, Who: "Bob", Expires: 9}, {ID: 2, Who: strings.Repeat("z", 25), Expires: 9}, {ID: 2, Who: "bob", Entry: -1, Expires: 9}, {ID: 2, Who: "bob", Entry: 4096, Expires: 9}, {ID: 2, Who: "bob", Reason: strings.Repeat("x", 121), Expires: 9}, of(2, -1), of(2, 1<<40+1),
		{ID: 1}, {ID: 1, Who: "Bob", Expires: 9}, {ID: 1, Who: "bob", Entry: 4096, Expires: 9}, of(1, -1), {ID: 1, Who: "bob", Reason: strings.Repeat("x", 1<<20), Expires: 9},
	} {
		for _, now := range append(times, noTimes...) {
			isFault(t, b.Put(q, now), api.ErrArg, q.ID)
		}
	}
	for _, now := range noTimes {
		isFault(t, b.Put(of(1, 9), now), api.ErrArg, 1)
		isFault(t, b.Put(of(2, 9), now), api.ErrArg, 2)
	}
	for _, now := range times {
		isFault(t, b.Put(of(1, 9), now), api.ErrThere, 1)
		isFault(t, b.Put(api.Request{ID: 1, Who: "eve", Entry: 5, Reason: "another", Expires: 1 << 40}, now), api.ErrThere, 1)
	}
	isFault(t, b.Put(of(2, 9), 10), api.ErrLate, 2)
	is(t, b, m, times...)
}

// 21.1: 200 requests, and no more; none that expired makes room, nor one that was denied.
func TestFull(t *testing.T) {
	b := request.New()
	var ids []int
	for i := range 200 {
		id := 1 + i*7919%1048576
		isFault(t, b.Put(of(id, i), 0), api.OK, id)
		ids = append(ids, id)
	}
	b.Deny(ids[3], 0)
	b.Revoke(ids[4], "bob", 0)
	for _, now := range []int{0, 150, 1 << 40} {
		isFault(t, b.Put(of(500000, 1<<40), now), api.ErrFull, 500000)
		isFault(t, b.Put(of(ids[9], 1<<40), now), api.ErrThere, ids[9])
		isFault(t, b.Put(of(0, 1<<40), now), api.ErrArg, 0)
	}
	isFault(t, b.Put(of(500000, 100), 101), api.ErrLate, 500000)
	isFault(t, b.Clone().Put(of(500000, 100), 100), api.ErrFull, 500000)
	if !slices.Equal(b.IDs(), ids) || b.Open("bob", 0) != 198 || b.Open("bob", 3) != 195 || b.Open("bob", 199) != 1 || b.Open("bob", 200) != 0 {
		t.Errorf("%d IDs, %d open", len(b.IDs()), b.Open("bob", 0))
	}
	if _, ok := b.Get(500000); ok || b.State(500000, 0) != api.StateNone {
		t.Error("what was refused is there")
	}
}

// 21.2: each call, of a request that stands in each way, in time and late, by who asked and by another one.
func TestCalls(t *testing.T) {
	const ok, late, there, rule = api.OK, api.ErrLate, api.ErrThere, api.ErrRule
	for _, c := range []struct {
		state                 int
		approve, deny, revoke [2]api.Errno // in time, late
	}{
		{api.StateOpen, [2]api.Errno{ok, late}, [2]api.Errno{ok, late}, [2]api.Errno{ok, late}},
		{api.StateApproved, [2]api.Errno{there, late}, [2]api.Errno{rule, late}, [2]api.Errno{ok, late}},
		{api.StateDenied, [2]api.Errno{rule, rule}, [2]api.Errno{there, there}, [2]api.Errno{rule, rule}},
		{api.StateRevoked, [2]api.Errno{rule, rule}, [2]api.Errno{rule, rule}, [2]api.Errno{there, there}},
	} {
		made := func() *request.Book {
			b := request.New()
			for _, q := range []api.Request{of(4, 9), of(5, 9), {ID: 6, Who: "eve", Expires: 9}} {
				isFault(t, b.Put(q, 0), api.OK, q.ID)
			}
			switch c.state {
			case api.StateApproved:
				isFault(t, b.Approve(5, 1), api.OK, 5)
			case api.StateDenied:
				isFault(t, b.Deny(5, 1), api.OK, 5)
			case api.StateRevoked:
				isFault(t, b.Revoke(5, "bob", 1), api.OK, 5)
			}
			return b
		}
		for _, now := range times {
			late := map[bool]int{true: 1}[now > 9]
			for to, x := range map[int]struct {
				want [2]api.Errno
				call func(*request.Book) error
			}{
				api.StateApproved: {c.approve, func(b *request.Book) error { return b.Approve(5, now) }},
				api.StateDenied:   {c.deny, func(b *request.Book) error { return b.Deny(5, now) }},
				api.StateRevoked:  {c.revoke, func(b *request.Book) error { return b.Revoke(5, "bob", now) }},
				-1:                {[2]api.Errno{rule, rule}, func(b *request.Book) error { return b.Revoke(5, "eve", now) }},
				-2:                {[2]api.Errno{rule, rule}, func(b *request.Book) error { return b.Revoke(5, "", now) }},
			} {
				b := made()
				isFault(t, x.call(b), x.want[late], 5)
				want := c.state
				if x.want[late] == ok {
					want = to
				}
				if b.State(5, 0) != want || b.State(4, 0) != api.StateOpen || b.State(6, 0) != api.StateOpen {
					t.Errorf("from %d to %d at %d: %d", c.state, to, now, b.State(5, 0))
				}
			}
		}
		for _, now := range noTimes {
			b := made()
			isFault(t, b.Approve(5, now), api.ErrArg, 5)
			isFault(t, b.Deny(5, now), api.ErrArg, 5)
			isFault(t, b.Revoke(5, "bob", now), api.ErrArg, 5)
			isFault(t, b.Revoke(5, "eve", now), api.ErrArg, 5)
			isFault(t, b.Approve(7, now), api.ErrArg, 7)
			isFault(t, b.Deny(7, now), api.ErrArg, 7)
			isFault(t, b.Revoke(7, "eve", now), api.ErrArg, 7)
			if b.State(5, 0) != c.state {
				t.Errorf("a call at %d, which is no time, changes how the request stands: %d", now, b.State(5, 0))
			}
		}
	}
}

// 21.3: how each state is told at each time: expired is what was open or approved, and nothing else.
func TestState(t *testing.T) {
	b := request.New()
	for id := 1; id <= 4; id++ {
		b.Put(of(id, 9), 0)
	}
	b.Approve(2, 9)
	b.Deny(3, 9)
	b.Revoke(4, "bob", 9)
	for _, now := range append(times, noTimes...) {
		want := []int{api.StateNone, api.StateOpen, api.StateApproved, api.StateDenied, api.StateRevoked, api.StateNone}
		if now > 9 {
			want[1], want[2] = api.StateExpired, api.StateExpired
		}
		for id, s := range want {
			if b.State(id, now) != s {
				t.Errorf("State of %d at %d: %d, not %d", id, now, b.State(id, now), s)
			}
		}
	}
}

// 21.3: a nil book.
func TestNil(t *testing.T) {
	var b *request.Book
	for _, now := range append(times, noTimes...) {
		isFault(t, b.Put(of(1, 9), now), api.ErrArg, 1)
		isFault(t, b.Put(api.Request{}, now), api.ErrArg, 0)
		isFault(t, b.Approve(2, now), api.ErrArg, 2)
		isFault(t, b.Deny(3, now), api.ErrArg, 3)
		isFault(t, b.Revoke(4, "bob", now), api.ErrArg, 4)
		if b.State(1, now) != api.StateNone || b.Open("bob", now) != 0 {
			t.Error("a nil book has something")
		}
	}
	if q, ok := b.Get(1); q != (api.Request{}) || ok || len(b.IDs()) != 0 || b.Clone() != nil {
		t.Errorf("a nil book has %v, %v, %v", q, b.IDs(), b.Clone())
	}
}

// 21.1 to 21.4: calls that were drawn, beside a model; a clone stays as the book was, and goes on by itself.
func TestAsTheWordsSay(t *testing.T) {
	r := rand.New(rand.NewSource(21))
	seen := map[string]int{}
	for range 300 {
		b, m := request.New(), &model{}
		over := map[int]bool{} // what was denied or revoked once
		for range 60 {
			if r.Intn(10) == 0 {
				c := b.Clone()
				b, c = c, b
				c.Put(of(11, 1<<40), 0)
				for _, id := range c.IDs() {
					c.Deny(id, 0)
					c.Revoke(id, "bob", 0)
				}
			}
			who, id, now := []string{"bob", "eve"}[r.Intn(2)], r.Intn(10), r.Intn(14)-1
			kind := r.Intn(4)
			var err error
			var want api.Errno
			switch kind {
			case 0:
				q := api.Request{ID: id, Who: who, Entry: r.Intn(5), Reason: "x", Expires: r.Intn(14) - 1}
				err, want = b.Put(q, now), m.put(q, now)
			case 1:
				err, want = b.Approve(id, now), m.judge(id, now, api.StateApproved)
			case 2:
				err, want = b.Deny(id, now), m.judge(id, now, api.StateDenied)
			case 3:
				err, want = b.Revoke(id, who, now), m.revoke(id, who, now)
			}
			isFault(t, err, want, id)
			is(t, b, m, -1, 0, now, now+1, 6, 13, 1<<40)
			seen[fmt.Sprint(kind, want)]++
			over[id] = over[id] || want == api.OK && kind >= 2
			if over[id] && b.State(id, 0) == api.StateApproved {
				t.Fatal("what was denied or revoked is approved")
			}
		}
	}
	if len(seen) != 4+6+6+6 {
		t.Errorf("there are other answers: %v", seen)
	}
}

// 21.3: a clone is the same, and neither book changes the other one.
func TestClone(t *testing.T) {
	b, m := request.New(), &model{}
	for _, q := range []api.Request{of(3, 9), of(1, 20), {ID: 2, Who: "eve", Entry: 7, Reason: "why", Expires: 11}} {
		b.Put(q, 0)
		m.put(q, 0)
	}
	b.Approve(1, 0)
	m.judge(1, 0, api.StateApproved)
	c := b.Clone()
	if c == b {
		t.Error("Clone is the book itself")
	}
	is(t, c, m, times...)
	c.Deny(3, 0)
	c.Revoke(1, "bob", 0)
	c.Put(of(8, 9), 0)
	is(t, b, m, times...)
	d := b.Clone()
	b.Approve(3, 0)
	b.Put(of(9, 9), 0)
	is(t, d, m, times...)
	if c.State(3, 0) != api.StateDenied || c.State(1, 0) != api.StateRevoked || c.State(8, 0) != api.StateOpen || c.State(9, 0) != api.StateNone {
		t.Error("the clone follows the book")
	}
}

// R3: nothing shares memory: what is put, what is told, what a clone has.
func TestNoMemoryIsShared(t *testing.T) {
	q := api.Request{ID: 1, Who: "bob", Reason: "why", Expires: 9}
	b := request.New()
	b.Put(q, 0)
	first, _ := b.Get(1)
	again, _ := b.Get(1)
	clone, _ := b.Clone().Get(1)
	seen := map[*byte]bool{}
	for _, x := range []api.Request{q, first, again, clone} {
		for _, s := range []string{x.Who, x.Reason} {
			if seen[unsafe.StringData(s)] {
				t.Errorf("%q is shared", s)
			}
			seen[unsafe.StringData(s)] = true
		}
	}
	b.IDs()[0] = 5
	if !slices.Equal(b.IDs(), []int{1}) {
		t.Error("IDs hands out the book's own list")
	}
}
