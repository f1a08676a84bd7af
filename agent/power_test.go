package agent_test

import (
	"slices"
	"testing"

	"lockbox/agent"
	"lockbox/api"
	"lockbox/disk"
)

// 26.2: the journal's error at each of its changes: an agent who can't write down what he judged releases nothing, and does not tell the policy's error.
func TestJournalErrors(t *testing.T) {
	var w world
	w.write("hello", 5)
	asks := w.ask(of7)
	for _, c := range []struct {
		rules []api.Rule
		after int // changes ahead: each record needs one
		id    int
		state int
	}{{bobs(1), 0, 7, api.StateNone}, {bobs(1), 1, 7, api.StateOpen}, {nil, 0, 7, api.StateNone}, {nil, 1, 7, api.StateOpen}} {
		d := disk.New(3, 1024)
		a := hire(t, 1, c.rules, d)
		d.Lay(api.Cut{After: c.after})
		refuses(t, a, w.of(asks, 0), 5, "journal", 0, api.ErrDown)
		if !d.Down() || a.Book().State(7, 5) != c.state {
			t.Errorf("cut %d: request 7 stands at %d", c.after, a.Book().State(7, 5))
		}
		for range 2 {
			refuses(t, a, w.of(asks, 0), 5, "journal", 0, api.ErrDown)
			d.Up()
		}
		a = hire(t, 1, c.rules, d)
		stands(t, a, d, 7, 5, c.state)
		if c.rules == nil {
			refuses(t, a, w.of(asks, 0), 5, "policy", 7, api.ErrRule)
			stands(t, a, d, 7, 5, api.StateDenied)
		} else {
			releases(t, a, w.of(asks, 0), 5)
			stands(t, a, d, 7, 5, api.StateApproved)
		}
	}
}

// 26.4, P2, P3: wherever the power fails: a share that was released is of a request that is approved for good, unless it was revoked behind that; what was denied or revoked stays so; what was under way was done, or not.
func TestCutAnywhere(t *testing.T) {
	var w world
	w.write("hello", 5)
	for id := 1; id <= 6; id++ {
		w.ask(api.Request{ID: id, Who: []string{"bob", "eve"}[id%2], Expires: 50})
	}
	for after := 0; ; after++ {
		cut := false
		for keep := range 2 {
			for _, torn := range []int{0, 3, 40, 2000} {
				d := disk.New(5, 1024)
				d.Lay(api.Cut{After: after, Keep: keep, Torn: torn})
				a, err := agent.New(dealt()[0], headKey, bobs(9), d)
				if err != nil {
					isFault(t, err, "journal", 0, api.ErrDown)
					cut = true
					continue
				}
				was, next := map[int]int{}, []int{api.StateNone} // how each request stood behind an answer; how the one under way may stand
				under := 0
				for id := 1; id <= 6 && !d.Down(); id++ {
					under, next = id, []int{api.StateNone, api.StateOpen, api.StateApproved, api.StateDenied}
					s, err := a.Judge(w.of(id, 0), 5)
					if d.Down() {
						isFault(t, err, "journal", 0, api.ErrDown)
						break
					}
					was[id] = api.StateApproved
					if (err == nil) != (id%2 == 0) || (s == "") != (err != nil) {
						t.Fatalf("Judge of %d: %x, %v", id, s, err)
					}
					if err != nil {
						was[id] = api.StateDenied
					}
					if id%4 != 0 {
						continue
					}
					next = []int{api.StateApproved, api.StateRevoked}
					if err := a.Revoke(id, "bob", 5); d.Down() {
						isFault(t, err, "journal", 0, api.ErrDown)
						break
					}
					was[id] = api.StateRevoked
				}
				if !d.Down() {
					continue
				}
				cut = true
				d.Up()
				a = hire(t, 1, bobs(9), d)
				for id := 1; id <= 6; id++ {
					state := a.Book().State(id, 5)
					if id == under && !slices.Contains(next, state) || id != under && state != was[id] {
						t.Fatalf("cut %d: request %d stands at %d, stood at %d", after, id, state, was[id])
					}
				}
			}
		}
		if !cut {
			break
		}
	}
}
