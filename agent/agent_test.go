package agent_test

import (
	"math"
	"math/rand"
	"reflect"
	"slices"
	"strings"
	"testing"

	"lockbox/agent"
	"lockbox/api"
	"lockbox/disk"
	"lockbox/head"
	"lockbox/leaf"
	"lockbox/request"
	"lockbox/segs"
	"lockbox/shamir"
	"lockbox/tree"
)

// of7 is bob's request 7 for the entry 0.
var of7 = api.Request{ID: 7, Who: "bob", Reason: "why", Expires: 30}

// 26.2, 26.3: the document's example.
func TestExample(t *testing.T) {
	var w world
	w.write("hello", 5)
	w.ask(of7)
	d := disk.New(3, 1024)
	a := hire(t, 1, bobs(1), d)
	releases(t, a, w.of(1, 0), 5)
	releases(t, a, w.of(1, 0), 6)
	if err := a.Revoke(7, "bob", 6); err != nil {
		t.Fatal(err)
	}
	refuses(t, a, w.of(1, 0), 6, "agent", 5, api.ErrRule)
}

// 26.1: what makes no agent; the disk stays as it is.
func TestNewErrors(t *testing.T) {
	s := dealt()[0]
	wrong := []api.Rule{{Who: "Bob"}}
	for i, c := range []struct {
		s     api.Share
		key   string
		rules []api.Rule
	}{
		{api.Share{}, headKey, nil}, {api.Share{X: 0, Need: 2, Y: s.Y}, headKey, nil}, {api.Share{X: 6, Need: 2, Y: s.Y}, headKey, nil}, {api.Share{X: 255, Need: 2, Y: s.Y}, headKey, nil}, {api.Share{X: -1, Need: 2, Y: s.Y}, headKey, nil}, {api.Share{X: math.MaxInt, Need: 2, Y: s.Y}, headKey, nil}, {api.Share{X: 1, Need: 0, Y: s.Y}, headKey, nil}, {api.Share{X: 1, Need: 256, Y: s.Y}, headKey, nil}, {api.Share{X: 1, Need: 2}, headKey, nil}, {api.Share{X: 1, Need: 2, Y: strings.Repeat("y", 65)}, headKey, nil},
		{s, "", nil}, {s, headKey[1:], nil}, {s, headKey + "h", nil},
		{s, headKey, wrong}, {s, headKey, slices.Repeat(bobs(1), 21)}, {s, headKey, append(bobs(1), api.Rule{To: 4097})}, {api.Share{}, "", wrong},
	} {
		d := disk.New(3, 1024)
		for _, d := range []*disk.Disk{d, nil, disk.New(2, 1024)} {
			a, err := agent.New(c.s, c.key, c.rules, d)
			if a != nil {
				t.Errorf("New %d: an agent", i)
			}
			isFault(t, err, "agent", 0, api.ErrArg)
		}
		if d.Changes() != 0 {
			t.Errorf("New %d changes the disk", i)
		}
	}
	junk := disk.New(3, 1024)
	junk.Append(1, "junk")
	other := disk.New(3, 1024)
	x, _ := segs.Open(other)
	x.Append("no journal's record")
	for _, c := range []struct {
		d    *disk.Disk
		want api.Errno
	}{{nil, api.ErrDown}, {disk.New(2, 1024), api.ErrArg}, {disk.New(3, 1000), api.ErrArg}, {junk, api.ErrForm}, {other, api.ErrForm}} {
		a, err := agent.New(s, headKey, nil, c.d)
		if a != nil {
			t.Error("New: an agent on a wrong disk")
		}
		isFault(t, err, "journal", 0, c.want)
	}
}

// 26.1: what makes an agent, up to what may just be.
func TestNew(t *testing.T) {
	for _, s := range []api.Share{{X: 1, Need: 1, Y: "y"}, {X: 5, Need: 255, Y: strings.Repeat("y", 64)}} {
		for _, rules := range [][]api.Rule{nil, {}, slices.Repeat(bobs(50), 20)} {
			a, err := agent.New(s, headKey, rules, disk.New(3, 1024))
			if err != nil || a.Place() != s.X || len(a.Book().IDs()) != 0 {
				t.Errorf("New: %v", err)
			}
		}
	}
}

// 26.1: what is shown stands under a head as just its kind.
func TestStands(t *testing.T) {
	var w world
	for i := range 7 {
		w.put(i%2+1, strings.Repeat("b", i))
	}
	h := w.head()
	for i := range 7 {
		s := w.shown(i)
		want, _ := leaf.Read(s.Leaf)
		for _, kind := range []int{math.MinInt, -1, 0, 1, 2, 3, math.MaxInt} {
			l, is := agent.Stands(h, kind, s)
			if is != (kind == i%2+1) || is && !leaf.Same(l, want) || !is && !reflect.DeepEqual(l, api.Leaf{}) {
				t.Errorf("Stands of %d as %d: %v, %v", i, kind, l, is)
			}
		}
	}
	for i, change := range []func(*api.Head, *api.Shown){
		func(h *api.Head, s *api.Shown) { s.Leaf = "" }, func(h *api.Head, s *api.Shown) { s.Leaf = "junk" }, func(h *api.Head, s *api.Shown) { s.Leaf += "\x00" }, func(h *api.Head, s *api.Shown) { s.Leaf = w.log[0] }, func(h *api.Head, s *api.Shown) { s.Leaf = s.Leaf[1:] },
		func(h *api.Head, s *api.Shown) { s.Blob = "" }, func(h *api.Head, s *api.Shown) { s.Blob += "b" }, func(h *api.Head, s *api.Shown) { s.Blob = w.blobs[3] },
		func(h *api.Head, s *api.Shown) { s.Way = nil }, func(h *api.Head, s *api.Shown) { s.Way = s.Way[1:] }, func(h *api.Head, s *api.Shown) { s.Way = append(slices.Clone(s.Way), headKey) }, func(h *api.Head, s *api.Shown) { s.Way = w.shown(3).Way }, func(h *api.Head, s *api.Shown) { s.Way[0] = s.Way[0][1:] },
		func(h *api.Head, s *api.Shown) { h.Size = 3 }, func(h *api.Head, s *api.Shown) { h.Size = 2 }, func(h *api.Head, s *api.Shown) { h.Size = 0 }, func(h *api.Head, s *api.Shown) { h.Size = -1 }, func(h *api.Head, s *api.Shown) { h.Size = math.MaxInt },
		func(h *api.Head, s *api.Shown) { h.Root = "" }, func(h *api.Head, s *api.Shown) { h.Root = headKey }, func(h *api.Head, s *api.Shown) { h.Root += "x" }, func(h *api.Head, s *api.Shown) { *s = api.Shown{} },
	} {
		h, s := w.head(), w.shown(2)
		if _, is := agent.Stands(h, 1, s); !is {
			t.Fatal("what stands does not")
		}
		change(&h, &s)
		if l, is := agent.Stands(h, 1, s); is || !reflect.DeepEqual(l, api.Leaf{}) {
			t.Errorf("change %d stands: %v", i, l)
		}
	}
	h.Code, h.Time = "", -1 // of a head only its leaves count
	if _, is := agent.Stands(h, 1, w.shown(2)); !is {
		t.Error("a head's code counts")
	}
	moved, _ := leaf.Read(w.log[2])
	moved.Number = 4
	s := w.shown(2)
	s.Leaf = leaf.Text(moved)
	d := w.digests()
	d[2] = tree.Leaf(s.Leaf) // a log in which a leaf stands at another place than it says
	h.Root = tree.Root(d)
	s.Way, _ = tree.Way(d, 2)
	if _, is := agent.Stands(h, 1, s); is {
		t.Error("a leaf stands at another place than it says")
	}
}

// 26.2: the first steps, in order: nothing is written down.
func TestFirstSteps(t *testing.T) {
	var w world
	w.write("hello", 5)
	w.write("other", 5)
	asks := w.ask(of7)
	junk := w.put(api.LeafRequest, "no request")
	far := w.ask(api.Request{ID: 8, Who: "bob", Entry: asks, Expires: 30})
	w.put(api.LeafEntry, "no entry")
	d := disk.New(3, 1024)
	a := hire(t, 3, bobs(9), d)
	changes := d.Changes()
	good := w.of(asks, 0)
	var none *agent.Agent
	refuses(t, none, good, 5, "agent", 0, api.ErrArg)
	refuses(t, none, api.Case{}, -1, "agent", 0, api.ErrArg)
	for _, c := range []struct {
		change func(h *api.Head)
		want   api.Errno
	}{
		{func(h *api.Head) { *h = api.Head{} }, api.ErrArg}, {func(h *api.Head) { h.Size = -1 }, api.ErrArg}, {func(h *api.Head) { h.Size = 4097 }, api.ErrArg}, {func(h *api.Head) { h.Root = "" }, api.ErrArg}, {func(h *api.Head) { h.Time = -1 }, api.ErrArg}, {func(h *api.Head) { h.Code = "" }, api.ErrArg},
		{func(h *api.Head) { h.Size++ }, api.ErrSum}, {func(h *api.Head) { h.Root = headKey }, api.ErrSum}, {func(h *api.Head) { h.Time++ }, api.ErrSum}, {func(h *api.Head) { h.Code = headKey }, api.ErrSum},
		{func(h *api.Head) { *h, _ = head.Sign(strings.Repeat("?", 32), h.Size, h.Root, h.Time) }, api.ErrSum},
	} {
		x := good
		c.change(&x.Head)
		refuses(t, a, x, 5, "agent", 1, c.want)
		x.Request, x.Entry = api.Shown{}, api.Shown{}
		refuses(t, a, x, -1, "agent", 1, c.want)
	}
	cut := w.shown(asks)
	cut.Way = cut.Way[1:]
	odd := w.shown(asks)
	odd.Blob = w.blobs[far]
	for _, s := range []api.Shown{{}, w.shown(0), w.shown(5), cut, odd} {
		refuses(t, a, api.Case{Head: good.Head, Request: s, Entry: w.shown(0)}, 5, "agent", 2, api.ErrProof)
		refuses(t, a, api.Case{Head: good.Head, Request: s}, -1, "agent", 2, api.ErrProof)
	}
	cut, odd = w.shown(0), w.shown(0)
	cut.Way, odd.Blob = cut.Way[1:], w.blobs[1]
	for _, s := range []api.Shown{{}, w.shown(asks), w.shown(junk), cut, odd} {
		refuses(t, a, api.Case{Head: good.Head, Request: w.shown(asks), Entry: s}, 5, "agent", 3, api.ErrProof)
		refuses(t, a, api.Case{Head: good.Head, Request: w.shown(junk), Entry: s}, -1, "agent", 3, api.ErrProof)
	}
	for _, now := range []int{-1, 5, 31, math.MaxInt} {
		refuses(t, a, w.of(junk, 0), now, "agent", 4, api.ErrForm)
		refuses(t, a, w.of(asks, 1), now, "agent", 4, api.ErrRule)
		refuses(t, a, w.of(far, 0), now, "agent", 4, api.ErrRule)
		refuses(t, a, w.of(far, 1), now, "agent", 4, api.ErrRule)
	}
	if len(a.Book().IDs()) != 0 || d.Changes() != changes {
		t.Error("what is refused ahead is written down")
	}
	short := w.head()
	short, _ = head.Sign(headKey, short.Size, short.Root, 0) // any head that the key signed will do
	releases(t, a, api.Case{Head: short, Request: w.shown(asks), Entry: w.shown(0)}, 5)
}

// 26.2: a request that is not in the book is put to it: the journal's errors.
func TestPut(t *testing.T) {
	var w world
	w.write("hello", 5)
	asks := w.ask(of7)
	d := disk.New(3, 1024)
	a := hire(t, 2, bobs(1), d)
	for _, c := range []struct {
		now  int
		want api.Errno
	}{{-1, api.ErrArg}, {math.MinInt, api.ErrArg}, {1<<40 + 1, api.ErrArg}, {31, api.ErrLate}, {1 << 40, api.ErrLate}} {
		refuses(t, a, w.of(asks, 0), c.now, "request", 7, c.want)
	}
	if len(a.Book().IDs()) != 0 || records(t, d) != 0 {
		t.Error("what is refused is written down")
	}
	releases(t, a, w.of(asks, 0), 30)
	if x, _ := a.Book().Get(7); x != of7 || records(t, d) != 2 {
		t.Errorf("Get: %v", x)
	}
	for _, q := range []api.Request{{ID: 7, Who: "eve", Reason: "why", Expires: 30}, {ID: 7, Who: "bob", Expires: 30}, {ID: 7, Who: "bob", Reason: "why", Expires: 31}} {
		i := w.ask(q)
		for _, now := range []int{-1, 5, 31} {
			refuses(t, a, w.of(i, 0), now, "agent", 5, api.ErrThere)
		}
	}
	other := w.write("other", 5)
	refuses(t, a, w.of(w.ask(api.Request{ID: 7, Who: "bob", Entry: other, Reason: "why", Expires: 30}), other), 5, "agent", 5, api.ErrThere)
	releases(t, a, w.of(w.ask(of7), 0), 5) // the same request, in another leaf
	if records(t, d) != 2 {
		t.Error("what is in the book is written down again")
	}
}

// 26.2: a full book; a full disk.
func TestFull(t *testing.T) {
	var w world
	w.write("hello", 5)
	d := disk.New(20, 1024)
	a := hire(t, 1, nil, d)
	for id := 1; id <= 200; id++ {
		refuses(t, a, w.of(w.ask(api.Request{ID: id, Who: "bob", Expires: 9}), 0), 5, "policy", id, api.ErrRule)
		stands(t, a, d, id, 5, api.StateDenied)
	}
	refuses(t, a, w.of(w.ask(of7), 0), 5, "agent", 5, api.ErrThere)
	refuses(t, a, w.of(w.ask(api.Request{ID: 201, Who: "bob", Expires: 9}), 0), 5, "request", 201, api.ErrFull)
	d = disk.New(3, 1024)
	a = hire(t, 1, bobs(1), d)
	for id := 1; ; id++ {
		i := w.ask(api.Request{ID: id, Who: "bob", Reason: strings.Repeat("x", 120), Expires: 9})
		_, err := a.Judge(w.of(i, 0), 5)
		if err == nil {
			continue
		}
		isFault(t, err, "journal", 0, api.ErrFull)
		if id < 4 || slices.Contains(a.Book().IDs(), id) {
			t.Errorf("the disk is full behind %v", a.Book().IDs())
		}
		releases(t, a, w.of(i-1, 0), 5)
		break
	}
}

// 26.2: how a request stands tells what becomes of it; time goes on, or back.
func TestStates(t *testing.T) {
	var w world
	w.write("hello", 5)
	asks := w.ask(of7)
	d := disk.New(4, 1024)
	a := hire(t, 1, bobs(1), d)
	releases(t, a, w.of(asks, 0), 5)
	stands(t, a, d, 7, 5, api.StateApproved)
	for _, now := range []int{31, 1 << 40, 1<<40 + 1, math.MaxInt} {
		refuses(t, a, w.of(asks, 0), now, "agent", 5, api.ErrLate)
	}
	for _, now := range []int{30, 0, -1} { // what was approved needs no more judging
		releases(t, a, w.of(asks, 0), now)
	}
	a = hire(t, 1, nil, d) // neither does another policy
	releases(t, a, w.of(asks, 0), 30)
	if records(t, d) != 2 {
		t.Errorf("%d records", records(t, d))
	}
	isFault(t, a.Revoke(7, "eve", 6), "request", 7, api.ErrRule)
	isFault(t, a.Revoke(8, "bob", 6), "request", 8, api.ErrNone)
	isFault(t, a.Revoke(7, "bob", -1), "request", 7, api.ErrArg)
	isFault(t, a.Revoke(7, "bob", 31), "request", 7, api.ErrLate)
	if err := a.Revoke(7, "bob", 6); err != nil {
		t.Fatal(err)
	}
	isFault(t, a.Revoke(7, "bob", 6), "request", 7, api.ErrThere)
	for _, now := range []int{-1, 0, 6, 31, math.MaxInt} {
		refuses(t, a, w.of(asks, 0), now, "agent", 5, api.ErrRule)
	}
	stands(t, a, d, 7, 6, api.StateRevoked)
	a = hire(t, 1, bobs(1), d)
	refuses(t, a, w.of(asks, 0), 6, "agent", 5, api.ErrRule)
	if err := a.Revoke(8, "bob", 6); err == nil || records(t, d) != 3 {
		t.Errorf("%d records", records(t, d))
	}
}

// 26.2: what the policy forbids is denied, for good; what has no room for now stays open.
func TestPolicy(t *testing.T) {
	var w world
	w.write("hello", 5)
	rules := []api.Rule{{Who: "eve", To: 9, Until: 99, Most: 9}, {Who: "bob", Word: "payroll", To: 9, Until: 20, Most: 2, Allow: true}, {Who: "ann", To: 9, Until: 99, Allow: true}}
	d := disk.New(8, 1024)
	a := hire(t, 4, rules, d)
	ask := func(id int, who, reason string, expires int) api.Case {
		return w.of(w.ask(api.Request{ID: id, Who: who, Reason: reason, Expires: expires}), 0)
	}
	refuses(t, a, ask(1, "eve", "the payroll", 50), 5, "policy", 0, api.ErrRule) // the first rule refuses
	refuses(t, a, ask(2, "bob", "why", 50), 5, "policy", 2, api.ErrRule)         // none fits
	refuses(t, a, ask(3, "bob", "the payroll", 50), 21, "policy", 3, api.ErrRule)
	for id := 1; id <= 3; id++ {
		stands(t, a, d, id, 5, api.StateDenied)
		stands(t, a, d, id, 99, api.StateDenied)
	}
	refuses(t, a, ask(3, "bob", "the payroll", 50), 5, "agent", 5, api.ErrRule) // once denied, for good
	releases(t, a, ask(4, "bob", "the payroll", 50), 5)
	n := records(t, d)
	full := ask(5, "ann", "", 50)
	for _, now := range []int{5, 6} {
		refuses(t, a, full, now, "policy", 2, api.ErrFull)
		stands(t, a, d, 5, now, api.StateOpen)
	}
	refuses(t, a, full, -1, "policy", -1, api.ErrArg)
	stands(t, a, d, 5, 5, api.StateOpen)
	if records(t, d) != n+1 {
		t.Errorf("%d records, not %d", records(t, d), n+1)
	}
	a = hire(t, 4, nil, d)
	refuses(t, a, full, 5, "policy", 5, api.ErrRule)
	stands(t, a, d, 5, 5, api.StateDenied)
}

// 26.2: of who asks as many are open as the book has, less this one; others don't count, nor do those that are expired.
func TestOpen(t *testing.T) {
	var w world
	w.write("hello", 5)
	d := disk.New(8, 1024)
	ask := func(id int, who string, expires int) api.Case {
		return w.of(w.ask(api.Request{ID: id, Who: who, Expires: expires}), 0)
	}
	var open []api.Case
	a := hire(t, 1, bobs(0), d) // so none is allowed, and all stay open
	for id, expires := range []int{10, 20, 30} {
		open = append(open, ask(id+1, "bob", expires))
		refuses(t, a, open[id], 5, "policy", 0, api.ErrFull)
	}
	a = hire(t, 1, []api.Rule{{To: 9, Until: 99, Allow: true}}, d)
	refuses(t, a, ask(9, "eve", 90), 5, "policy", 0, api.ErrFull)
	a = hire(t, 1, bobs(2), d)
	refuses(t, a, open[2], 5, "policy", 0, api.ErrFull) // two others are open
	releases(t, a, open[2], 11)                         // one of them is expired
	releases(t, a, open[1], 5)                          // one is approved
	releases(t, a, open[0], 5)
	a = hire(t, 1, []api.Rule{{To: 9, Until: 99, Most: 1, Allow: true}}, d)
	releases(t, a, ask(4, "bob", 90), 5) // eve's does not count
	refuses(t, a, ask(10, "eve", 90), 5, "policy", 0, api.ErrFull)
	if err := a.Revoke(9, "eve", 5); err != nil {
		t.Fatal(err)
	}
	releases(t, a, w.of(len(w.log)-1, 0), 5) // eve's other one was revoked
}

// 26.2: what an entry's blob must have, of a request that is approved: which it stays.
func TestBlobs(t *testing.T) {
	for place := 1; place <= 5; place++ {
		mine := dealt()[place-1]
		good := shares(0)
		d := disk.New(20, 1024)
		a := hire(t, place, bobs(1), d)
		ahead := func(n int) []string { // what stands ahead of this agent's share does not count
			return slices.Repeat([]string{text("junk")}, n)
		}
		at := func(x string) string { return list(text("any"), list(append(ahead(place-1), x)...)) }
		for i, c := range []struct {
			blob string
			want api.Errno
		}{
			{"", api.ErrForm}, {"junk", api.ErrForm}, {list(), api.ErrForm}, {list(text("any")), api.ErrForm}, {list(text("any"), text("x")), api.ErrForm}, {list(text("any"), list(append(ahead(place), num(1))...)), api.ErrForm}, {at(text("x")) + "\x00", api.ErrForm},
			{list(text("any"), list()), api.ErrForm}, {list(text("any"), list(ahead(place-1)...)), api.ErrForm},
			{at(text("")), api.ErrKey}, {at(text("junk")), api.ErrKey}, {list(text("any"), list(ahead(5)...)), api.ErrKey}, {at(sealed(mine, 1, shamir.Text(good[place-1]))), api.ErrKey}, {at(sealed(dealt()[place%5], 0, shamir.Text(good[place-1]))), api.ErrKey}, {at(text(shamir.Text(good[place-1]))), api.ErrKey},
			{at(sealed(mine, 0, "")), api.ErrKey}, {at(sealed(mine, 0, "junk")), api.ErrKey}, {at(sealed(mine, 0, shamir.Text(good[place%5]))), api.ErrKey}, {at(sealed(mine, 0, shamir.Text(good[place-1])+"\x00")), api.ErrKey}, {at(sealed(mine, 0, list(num(place), num(0), text("y")))), api.ErrKey},
		} {
			var w world
			w.put(api.LeafEntry, c.blob)
			q := of7
			q.ID = 100*place + i
			asks := w.ask(q)
			refuses(t, a, w.of(asks, 0), 5, "agent", 6, c.want)
			stands(t, a, d, q.ID, 5, api.StateApproved)
			refuses(t, a, w.of(asks, 0), 5, "agent", 6, c.want)
		}
		for _, blob := range []string{at(sealed(mine, 0, shamir.Text(good[place-1]))), list(text(""), list(append(ahead(place-1), sealed(mine, 0, shamir.Text(good[place-1])), text("junk"))...))} {
			var w world
			w.put(api.LeafEntry, blob)
			releases(t, a, w.of(w.ask(of7), 0), 5)
		}
		var w world // a share of any secret, if it is of his place
		odd := api.Share{X: place, Need: 200, Y: "\x00"}
		w.put(api.LeafEntry, at(sealed(mine, 0, shamir.Text(odd))))
		if s, err := a.Judge(w.of(w.ask(of7), 0), 5); err != nil || s != shamir.Text(odd) {
			t.Errorf("Judge: %x, %v", s, err)
		}
	}
}

// 26.4: the agents' shares open an entry; each book is one's own.
func TestAgents(t *testing.T) {
	var w world
	for i := range 4 {
		w.write(strings.Repeat("x", i), 5)
	}
	asks := w.ask(api.Request{ID: 1, Who: "bob", Entry: 2, Expires: 9})
	var got []api.Share
	for place := 1; place <= 5; place++ {
		a := hire(t, place, bobs(1), disk.New(3, 1024))
		releases(t, a, w.of(asks, 2), 9)
		s, _ := a.Judge(w.of(asks, 2), 9)
		x, e := shamir.Read(s)
		if e != api.OK {
			t.Fatal(e)
		}
		got = append(got, x)
	}
	for i := range got {
		for j := range i {
			if key, e := shamir.Combine([]api.Share{got[i], got[j]}); e != api.OK || key != entryKey(2) {
				t.Errorf("Combine of %d and %d: %v", i, j, e)
			}
		}
	}
}

// 26.2, 26.4: whatever is asked, in whatever order and at whichever times, an agent does as a second reckoning by the document's words; and so does one that is hired again.
func TestAgainstModel(t *testing.T) {
	draw := rand.New(rand.NewSource(26))
	for range 25 {
		var w world
		w.write("hello", 5)
		rules := []api.Rule{{Who: "eve", Word: "no", To: 9, Until: 99, Most: 9}, {Who: "bob", To: 9, Until: draw.Intn(60), Most: draw.Intn(4), Allow: true}, {To: 9, Until: draw.Intn(60), Most: draw.Intn(3), Allow: true}}
		var asked []api.Request
		for range 14 {
			q := api.Request{ID: 1 + draw.Intn(9), Who: []string{"bob", "eve"}[draw.Intn(2)], Reason: []string{"", "no"}[draw.Intn(2)], Expires: draw.Intn(60)}
			asked = append(asked, q)
			w.ask(q)
		}
		d := disk.New(12, 1024)
		a := hire(t, 2, rules, d)
		m := model{rules: rules, book: request.New()}
		for range 60 {
			i, now := draw.Intn(len(asked)), draw.Intn(61)-1
			q := asked[i]
			if draw.Intn(6) == 0 {
				who := []string{"bob", "eve"}[draw.Intn(2)]
				if e, want := a.Revoke(q.ID, who, now), m.book.Revoke(q.ID, who, now); api.Code(e) != api.Code(want) {
					t.Fatalf("Revoke: %v, not %v", e, want)
				}
			} else if e, op, n := m.judge(q, now); e == api.OK {
				releases(t, a, w.of(1+i, 0), now)
			} else {
				refuses(t, a, w.of(1+i, 0), now, op, n, e)
			}
			for _, id := range m.book.IDs() {
				if x, y := a.Book().State(id, now), m.book.State(id, now); x != y {
					t.Fatalf("request %d stands at %d, not %d", id, x, y)
				}
			}
			if !slices.Equal(a.Book().IDs(), m.book.IDs()) {
				t.Fatalf("IDs: %v, not %v", a.Book().IDs(), m.book.IDs())
			}
			if draw.Intn(8) == 0 {
				d.Fail(0, 0)
				d.Up()
				a = hire(t, 2, rules, d)
			}
		}
	}
}

// 26.3: there is no agent.
func TestNil(t *testing.T) {
	var a *agent.Agent
	isFault(t, a.Revoke(7, "bob", 5), "agent", 0, api.ErrArg)
	if a.Book() != nil || a.Place() != 0 {
		t.Error("a nil agent has something")
	}
}

// R3, 26.3: rules that are handed in are not kept; a book that is answered is a copy.
func TestOwn(t *testing.T) {
	var w world
	w.write("hello", 5)
	asks := w.ask(of7)
	rules := bobs(1)
	d := disk.New(3, 1024)
	a := hire(t, 1, rules, d)
	rules[0].Allow, rules[0].Who = false, "eve"
	b := a.Book()
	b.Put(api.Request{ID: 7, Who: "eve", Expires: 9}, 0)
	releases(t, a, w.of(asks, 0), 5)
	b = a.Book()
	b.Revoke(7, "bob", 5)
	releases(t, a, w.of(asks, 0), 5)
	if b.State(7, 5) != api.StateRevoked {
		t.Error("the copy is none of its own")
	}
	c := w.of(asks, 0)
	before := w.of(asks, 0)
	a.Judge(c, 5)
	if !reflect.DeepEqual(c, before) {
		t.Error("a case that was handed in is changed")
	}
}
