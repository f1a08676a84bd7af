package request_test

import (
	"errors"
	"slices"
	"testing"

	"lockbox/api"
	"lockbox/request"
)

// model is a book as the document's words say.
type model struct {
	ids    []int
	all    map[int]api.Request
	states map[int]int
}

func (m *model) state(id, now int) int {
	s := m.states[id]
	if (s == api.StateOpen || s == api.StateApproved) && m.all[id].Expires < now {
		return api.StateExpired
	}
	return s
}

func isTime(now int) bool { return now >= 0 && now <= 1<<40 }

// put is what Put answers, of a request whose Who, Reason and Entry may be.
func (m *model) put(q api.Request, now int) api.Errno {
	_, there := m.all[q.ID]
	switch {
	case q.ID < 1 || q.ID > 1<<20 || !isTime(q.Expires) || !isTime(now):
		return api.ErrArg
	case there:
		return api.ErrThere
	case now > q.Expires:
		return api.ErrLate
	case len(m.ids) == 200:
		return api.ErrFull
	}
	if m.all == nil {
		m.all, m.states = map[int]api.Request{}, map[int]int{}
	}
	m.ids = append(m.ids, q.ID)
	m.all[q.ID], m.states[q.ID] = q, api.StateOpen
	return api.OK
}

// judge is what Approve and Deny answer.
func (m *model) judge(id, now, state int) api.Errno {
	_, there := m.all[id]
	switch s := m.state(id, now); {
	case !isTime(now):
		return api.ErrArg
	case !there:
		return api.ErrNone
	case s == api.StateExpired:
		return api.ErrLate
	case s == state:
		return api.ErrThere
	case s != api.StateOpen:
		return api.ErrRule
	}
	m.states[id] = state
	return api.OK
}

func (m *model) revoke(id int, who string, now int) api.Errno {
	q, there := m.all[id]
	switch s := m.state(id, now); {
	case !isTime(now):
		return api.ErrArg
	case !there:
		return api.ErrNone
	case q.Who != who:
		return api.ErrRule
	case s == api.StateExpired:
		return api.ErrLate
	case s == api.StateRevoked:
		return api.ErrThere
	case s == api.StateDenied:
		return api.ErrRule
	}
	m.states[id] = api.StateRevoked
	return api.OK
}

func (m *model) open(who string, now int) int {
	n := 0
	for _, id := range m.ids {
		if m.all[id].Who == who && m.state(id, now) == api.StateOpen {
			n++
		}
	}
	return n
}

// is asks whether a book tells what the model does, at some times.
func is(t *testing.T, b *request.Book, m *model, times ...int) {
	t.Helper()
	if !slices.Equal(b.IDs(), m.ids) {
		t.Fatalf("IDs: %v, not %v", b.IDs(), m.ids)
	}
	for id := -1; id < 12; id++ {
		want, there := m.all[id]
		if q, ok := b.Get(id); q != want || ok != there {
			t.Fatalf("Get of %d: %v, %v", id, q, ok)
		}
		for _, now := range times {
			if s := b.State(id, now); s != m.state(id, now) {
				t.Fatalf("State of %d at %d: %d, not %d", id, now, s, m.state(id, now))
			}
		}
	}
	for _, who := range []string{"bob", "eve", "", "Bob", "nobody"} {
		for _, now := range times {
			if n := b.Open(who, now); n != m.open(who, now) {
				t.Fatalf("Open of %q at %d: %d, not %d", who, now, n, m.open(who, now))
			}
		}
	}
}

// isFault asks whether an error is a fault of this layer that wraps e, or none, if e is OK.
func isFault(t *testing.T, err error, e api.Errno, id int) {
	t.Helper()
	if e == api.OK {
		if err != nil {
			t.Fatalf("%v, where there is no error", err)
		}
		return
	}
	f, ok := err.(*api.Fault)
	if !ok || f == nil || *f != (api.Fault{Op: "request", N: id, Err: e}) || !errors.Is(err, e) || api.Code(err) != e {
		t.Fatalf("%#v, not %v of %d", err, e, id)
	}
}
