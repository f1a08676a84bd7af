package agent_test

import (
	"errors"
	"fmt"
	"slices"
	"strings"
	"testing"

	"lockbox/agent"
	"lockbox/api"
	"lockbox/digest"
	"lockbox/disk"
	"lockbox/head"
	"lockbox/index"
	"lockbox/journal"
	"lockbox/leaf"
	"lockbox/mac"
	"lockbox/policy"
	"lockbox/request"
	"lockbox/seal"
	"lockbox/shamir"
	"lockbox/tree"
)

// num, text and list are items as the words of layer 2 write them.
func num(n int) string {
	s := ""
	for ; n > 0; n /= 256 {
		s = string([]byte{byte(n)}) + s
	}
	return string([]byte{byte(len(s))}) + s
}

func text(s string) string { return "\x08" + num(len(s)) + s }

func list(l ...string) string { return "\x09" + num(len(l)) + strings.Join(l, "") }

// draw is n bytes that look drawn.
func draw(label string, n int) string {
	s, e := mac.Expand(strings.Repeat("r", 32), label, n)
	if e != api.OK {
		panic(e)
	}
	return s
}

// headKey is the key of heads.
var headKey = strings.Repeat("h", 32)

// dealt are the agents' shares of a secret, of which two are needed.
func dealt() []api.Share {
	l, e := shamir.Split(draw("master", 32), 2, 5, draw("deal", 32))
	if e != api.OK {
		panic(e)
	}
	return l
}

// wrapOf is the key of an agent with a share, as the words of layer 24 say.
func wrapOf(s api.Share) string { return mac.Key(shamir.Text(s), "wrap", s.X) }

// world is a log whose leaves may be of any blobs.
type world struct {
	x     index.Index
	log   []string
	blobs []string
}

// put puts a leaf of a kind and a blob to the log: its number.
func (w *world) put(kind int, blob string) int {
	number := len(w.log)
	x, _, e := w.x.With(number, nil)
	if e != api.OK {
		panic(e)
	}
	w.x = x
	w.log = append(w.log, leaf.Text(api.Leaf{Number: number, Kind: kind, Digest: digest.Sum(blob), Index: x.Root()}))
	w.blobs = append(w.blobs, blob)
	return number
}

// ask puts a request.
func (w *world) ask(q api.Request) int {
	return w.put(api.LeafRequest, list(num(q.ID), text(q.Who), num(q.Entry), text(q.Reason), num(q.Expires)))
}

// write puts an entry whose key is shared by some agents.
func (w *world) write(plain string, agents int) int {
	number := len(w.log)
	var wrapped []string
	for i, s := range shares(number)[:agents] {
		wrapped = append(wrapped, sealed(dealt()[i], number, shamir.Text(s)))
	}
	t, _ := seal.Seal(entryKey(number), number, plain)
	return w.put(api.LeafEntry, list(text(t), list(wrapped...)))
}

// entryKey is the key of an entry; shares are those of it.
func entryKey(number int) string { return draw("key"+num(number), 32) }

func shares(number int) []api.Share {
	l, e := shamir.Split(entryKey(number), 2, 5, draw("split"+num(number), 32))
	if e != api.OK {
		panic(e)
	}
	return l
}

// sealed is a text, sealed for the agent who has a share, as an item of a blob.
func sealed(s api.Share, number int, plain string) string {
	t, e := seal.Seal(wrapOf(s), number, plain)
	if e != api.OK {
		panic(e)
	}
	return text(t)
}

func (w *world) digests() []string {
	var d []string
	for _, s := range w.log {
		d = append(d, tree.Leaf(s))
	}
	return d
}

// head is that of all leaves.
func (w *world) head() api.Head {
	h, e := head.Sign(headKey, len(w.log), tree.Root(w.digests()), 7)
	if e != api.OK {
		panic(e)
	}
	return h
}

// shown is a leaf under that head.
func (w *world) shown(i int) api.Shown {
	way, e := tree.Way(w.digests(), i)
	if e != api.OK {
		panic(e)
	}
	return api.Shown{Leaf: w.log[i], Blob: w.blobs[i], Way: way}
}

// of is the case of a request and an entry.
func (w *world) of(request, entry int) api.Case {
	return api.Case{Head: w.head(), Request: w.shown(request), Entry: w.shown(entry)}
}

// bobs is a policy that allows bob so many.
func bobs(most int) []api.Rule {
	return []api.Rule{{Who: "bob", To: 4096, Until: 1 << 40, Most: most, Allow: true}}
}

// hire is an agent on a disk.
func hire(t *testing.T, place int, rules []api.Rule, d *disk.Disk) *agent.Agent {
	t.Helper()
	a, err := agent.New(dealt()[place-1], headKey, rules, d)
	if err != nil || a == nil || a.Place() != place {
		t.Fatalf("New: %v", err)
	}
	return a
}

// isFault asks whether an error is a fault that wraps e.
func isFault(t *testing.T, err error, op string, n int, e api.Errno) {
	t.Helper()
	f, ok := err.(*api.Fault)
	if !ok || f == nil || f.Op != op || f.N != n || !errors.Is(err, e) || api.Code(err) != e {
		t.Fatalf("%#v, not %s, %d, %v", err, op, n, e)
	}
}

// refuses asks whether an agent answers a case with just a fault.
func refuses(t *testing.T, a *agent.Agent, c api.Case, now int, op string, n int, e api.Errno) {
	t.Helper()
	s, err := a.Judge(c, now)
	if s != "" {
		t.Fatalf("a share beside %v", err)
	}
	isFault(t, err, op, n, e)
}

// releases asks whether an agent answers a case with his share of its entry's key.
func releases(t *testing.T, a *agent.Agent, c api.Case, now int) {
	t.Helper()
	l, e := leaf.Read(c.Entry.Leaf)
	if e != api.OK {
		t.Fatal(e)
	}
	s, err := a.Judge(c, now)
	if want := shamir.Text(shares(l.Number)[a.Place()-1]); err != nil || s != want {
		t.Fatalf("Judge: %x, %v, not %x", s, err, want)
	}
}

// stands asks how a request stands in an agent's book, and in the journal on his disk, for good.
func stands(t *testing.T, a *agent.Agent, d *disk.Disk, id, now, want int) {
	t.Helper()
	c := d.Clone()
	c.Lay(api.Cut{After: 1 << 40})
	c.Fail(0, 0)
	c.Up()
	j, err := journal.Open(c)
	if err != nil {
		t.Fatal(err)
	}
	if x, y := a.Book().State(id, now), j.Book().State(id, now); x != want || y != want {
		t.Fatalf("request %d at %d stands at %d, in the journal at %d, not at %d", id, now, x, y, want)
	}
}

// records is how many records an agent's journal has, for good.
func records(t *testing.T, d *disk.Disk) int {
	t.Helper()
	c := d.Clone()
	c.Fail(0, 0)
	c.Up()
	j, err := journal.Open(c)
	if err != nil {
		t.Fatal(err)
	}
	return j.Len()
}

// model is what an agent does with cases that stand, as the document's words say.
type model struct {
	rules []api.Rule
	book  *request.Book
}

// judge is the error of a request's case, and as which fault.
func (m *model) judge(q api.Request, now int) (e api.Errno, op string, n int) {
	if !slices.Contains(m.book.IDs(), q.ID) {
		if err := m.book.Put(q, now); err != nil {
			return api.Code(err), "request", q.ID
		}
	}
	if x, _ := m.book.Get(q.ID); fmt.Sprint(x) != fmt.Sprint(q) {
		return api.ErrThere, "agent", 5
	}
	switch m.book.State(q.ID, now) {
	case api.StateApproved:
		return api.OK, "", 0
	case api.StateExpired:
		return api.ErrLate, "agent", 5
	case api.StateDenied, api.StateRevoked:
		return api.ErrRule, "agent", 5
	}
	open := 0
	for _, id := range m.book.IDs() {
		if x, _ := m.book.Get(id); x.Who == q.Who && id != q.ID && m.book.State(id, now) == api.StateOpen {
			open++
		}
	}
	_, err := policy.Decide(m.rules, q, now, open)
	if err == nil {
		m.book.Approve(q.ID, now)
		return api.OK, "", 0
	}
	f := err.(*api.Fault)
	if api.Code(err) == api.ErrRule {
		m.book.Deny(q.ID, now)
	}
	return api.Code(err), "policy", f.N
}
