package server_test

import (
	"math"
	"math/rand"
	"slices"
	"strings"
	"testing"
	"unsafe"

	"lockbox/api"
	"lockbox/digest"
	"lockbox/disk"
	"lockbox/head"
	"lockbox/index"
	"lockbox/leaf"
	"lockbox/ledger"
	"lockbox/query"
	"lockbox/server"
	"lockbox/tree"
)

// 25.2: the document's example.
func TestExample(t *testing.T) {
	s, _ := on(t, disk.New(3, 1024))
	if r := s.Handle(textOf(api.Ask{Op: "top"})); r != "\x09\x01\x02\x01\x04\x09\x00" {
		t.Errorf("top: %x", r)
	}
}

// isCode asks whether a reply is an error, without texts.
func isCode(t *testing.T, what string, r api.Reply, e api.Errno) {
	t.Helper()
	if r.Code != int(e) || len(r.Texts) > 0 {
		t.Errorf("%s: %d, %d texts, not %v", what, r.Code, len(r.Texts), e)
	}
}

// 25.2, 25.3: what is asked is answered as a second reckoning by the document's words has it, in whatever order; Handle answers the same in bytes.
func TestAgainstModel(t *testing.T) {
	l := work()
	draw := rand.New(rand.NewSource(25))
	for range 60 {
		s, g := on(t, disk.New(12, 1024))
		var m model
		var codes [14]int
		for range 120 {
			a := anyAsk(draw, l)
			want := m.do(a, l)
			var r api.Reply
			if draw.Intn(2) == 0 {
				r = s.Do(a)
			} else if x, e := server.ReadReply(s.Handle(textOf(a))); e == api.OK {
				r = x
			}
			if !same(r, want) {
				t.Fatalf("%s %d %d: %d, %x, not %d, %x", a.Op, a.A, a.B, r.Code, r.Texts, want.Code, want.Texts)
			}
			codes[r.Code]++
			if s.Len() != len(m.log) || g.Len() != len(m.log) || g.Sure() != len(m.log) {
				t.Fatalf("Len: %d, %d, %d, not %d", s.Len(), g.Len(), g.Sure(), len(m.log))
			}
			if h, is := s.Head(); is != (m.top != nil) || is && h != *m.top || !is && h != (api.Head{}) {
				t.Fatalf("Head: %v, %v", h, is)
			}
		}
	}
}

// anyAsk is an ask that may be, of any kind.
func anyAsk(draw *rand.Rand, l []entry) api.Ask {
	a := api.Ask{Op: ops()[draw.Intn(6)], A: draw.Intn(len(l) + 2), B: draw.Intn(len(l) + 2)}
	x := l[draw.Intn(len(l))]
	switch a.Op {
	case "put":
		a.S, a.T = x.text, x.blob
		switch draw.Intn(12) {
		case 0:
			a.T = "another one"
		case 1:
			a.S = "junk"
		case 2:
			a.T = ""
		case 3:
			a.T = strings.Repeat("x", 881)
		}
	case "head":
		size := draw.Intn(len(l) + 1)
		h := signed(l, size, draw.Intn(4))
		switch draw.Intn(6) {
		case 0:
			h.Root = tree.Root(digests(l[:draw.Intn(len(l)+1)]))
		case 1:
			h.Code = strings.Repeat("x", 32) // a server has no key
		}
		a.S, a.T = head.Text(h), "of no account"
		if draw.Intn(8) == 0 {
			a.S = "junk"
		}
	case "find":
		a.S = []string{tag(0), tag(1), tag(2), tag(3), "", "x", strings.Repeat("y", 4000)}[draw.Intn(7)]
	}
	return a
}

// 25.2: asks that may not be, and a server that there is not.
func TestErrArg(t *testing.T) {
	l := work()
	s, g := on(t, disk.New(12, 1024))
	s.Do(l[0].put())
	var none *server.Server
	long := strings.Repeat("x", 4001)
	for _, a := range []api.Ask{{}, {Op: "get"}, {Op: "PUT", S: l[1].text, T: l[1].blob}, {Op: "put", A: -1, S: l[1].text, T: l[1].blob}, {Op: "put", B: 4097, S: l[1].text, T: l[1].blob}, {Op: "put", S: long, T: "x"}, {Op: "put", S: l[1].text, T: long}, {Op: "head", S: long}, {Op: "top", T: long}, {Op: "top", A: 4097}, {Op: "top", B: -1}, {Op: "leaf", A: math.MaxInt}, {Op: "leaf", A: 1, B: math.MinInt}, {Op: "bridge", A: 0, B: math.MaxInt}, {Op: "bridge", A: math.MinInt, B: 1}, {Op: "find", A: -1}, {Op: "find", S: long}} {
		isCode(t, a.Op, s.Do(a), api.ErrArg)
		isCode(t, a.Op, none.Do(a), api.ErrArg)
	}
	if s.Len() != 1 || g.Len() != 1 {
		t.Error("what is refused changes something")
	}
	for _, op := range ops() {
		isCode(t, op, none.Do(api.Ask{Op: op, S: l[0].text, T: l[0].blob}), api.ErrArg)
		if r, e := server.ReadReply(none.Handle(textOf(api.Ask{Op: op}))); e != api.OK || r.Code != int(api.ErrArg) {
			t.Errorf("Handle of no server: %v, %v", r, e)
		}
	}
	if h, is := none.Head(); h != (api.Head{}) || is || none.Len() != 0 || server.New(nil) != nil {
		t.Error("a nil server has something")
	}
	for _, x := range []*server.Server{s, none} {
		for _, ask := range []string{"", "junk", textOf(api.Ask{Op: "get"}), textOf(api.Ask{Op: "top", A: 4097}), textOf(api.Ask{Op: "top"}) + "\x00"} {
			if r := x.Handle(ask); r != list(num(3), list()) {
				t.Errorf("Handle of %x: %x", ask, r)
			}
		}
	}
}

// 25.2, 25.4: a put that comes twice is as one that comes once; what was put is there for good.
func TestPut(t *testing.T) {
	l := work()
	d := disk.New(12, 1024)
	s, _ := on(t, d)
	for i, x := range l {
		for range 3 {
			isCode(t, "put", s.Do(x.put()), api.OK)
			c := d.Clone()
			c.Fail(0, 0)
			c.Up()
			if again, _ := on(t, c); again.Len() != i+1 || s.Len() != i+1 {
				t.Fatalf("%d entries, %d behind a loss of power", s.Len(), again.Len())
			}
		}
		changes := d.Changes()
		for _, y := range l[:i+1] {
			isCode(t, "put again", s.Do(y.put()), api.OK)
			isCode(t, "put of another blob", s.Do(api.Ask{Op: "put", S: y.text, T: y.blob + "x"}), api.ErrThere)
			isCode(t, "put of no blob", s.Do(api.Ask{Op: "put", S: y.text}), api.ErrThere)
			isCode(t, "put of a blob that is none", s.Do(api.Ask{Op: "put", S: y.text, T: strings.Repeat("x", 881)}), api.ErrThere)
		}
		if d.Changes() != changes {
			t.Error("what is there changes the disk")
		}
	}
	var m maker
	for i, x := range []entry{m.entry("another one", tag(1)), m.entry("two", tag(1))} { // other leaves of numbers that are there
		isCode(t, "put of another leaf", s.Do(x.put()), api.ErrThere)
		isCode(t, "put of another leaf", s.Do(entry{x.text, l[i].blob}.put()), api.ErrThere)
	}
}

// 25.2: the ledger's errors.
func TestPutErrors(t *testing.T) {
	l := work()
	s, _ := on(t, disk.New(12, 1024))
	isCode(t, "put", s.Do(l[0].put()), api.OK)
	last, _ := leaf.Read(l[1].text)
	last.Number = 4095
	for _, c := range []struct {
		s, t string
		want api.Errno
	}{{"", "", api.ErrArg}, {"junk", "", api.ErrArg}, {l[1].text, "", api.ErrArg}, {l[1].text, strings.Repeat("x", 881), api.ErrArg}, {"", "x", api.ErrForm}, {"junk", "x", api.ErrForm}, {l[0].text + "\x00", l[0].blob, api.ErrForm}, {l[1].text, "x", api.ErrSum}, {l[2].text, "x", api.ErrSum}, {l[2].text, l[2].blob, api.ErrProof}, {leaf.Text(last), l[1].blob, api.ErrProof}} {
		isCode(t, "put", s.Do(api.Ask{Op: "put", S: c.s, T: c.t}), c.want)
	}
	d := disk.New(3, 1024)
	s, _ = on(t, d)
	for _, x := range l[:3] {
		isCode(t, "put", s.Do(x.put()), api.OK)
	}
	isCode(t, "put without room", s.Do(l[3].put()), api.ErrFull)
	d.Fail(0, 0)
	for range 2 {
		isCode(t, "put to a disk that went down", s.Do(l[3].put()), api.ErrDown)
		isCode(t, "put of what is there", s.Do(l[2].put()), api.OK)
		d.Up()
	}
}

// 25.2: heads that are no heads, not of this log, or not behind the one that the server has.
func TestHead(t *testing.T) {
	l := work()
	s, _ := on(t, disk.New(12, 1024))
	for _, x := range l[:4] {
		s.Do(x.put())
	}
	take := func(h api.Head) api.Reply { return s.Do(api.Ask{Op: "head", S: head.Text(h)}) }
	var m maker
	other := []entry{m.entry("one"), m.entry("two"), m.entry("three"), m.entry("four")}
	for _, x := range []string{"", "junk", head.Text(signed(l, 0, 0))[1:], head.Text(signed(l, 0, 0)) + "\x00"} {
		isCode(t, "no head", s.Do(api.Ask{Op: "head", S: x}), api.ErrForm)
	}
	isCode(t, "no head yet", s.Do(api.Ask{Op: "top"}), api.ErrNone)
	odd := signed(l, 2, 5)
	odd.Code = strings.Repeat("?", 32)
	for _, c := range []struct {
		h    api.Head
		want api.Errno
	}{
		{signed(l, 5, 5), api.ErrProof}, {signed(other, 1, 5), api.ErrProof}, {signed(other, 4, 5), api.ErrProof}, {signed(l, 0, 4), api.OK}, {signed(l, 0, 4), api.OK}, {signed(l, 0, 5), api.OK},
		{odd, api.OK}, {signed(l, 2, 5), api.OK}, {signed(l, 1, 5), api.ErrProof}, {signed(l, 1, 9), api.ErrProof}, {signed(l, 2, 4), api.ErrProof}, {signed(l, 3, 4), api.ErrProof}, {signed(other, 2, 6), api.ErrProof}, {signed(other, 3, 6), api.ErrProof}, {signed(l, 5, 6), api.ErrProof},
		{signed(l, 2, 6), api.OK}, {signed(l, 4, 6), api.OK}, {signed(l, 4, 5), api.ErrProof}, {signed(l, 3, 1<<40), api.ErrProof}, {signed(l, 4, 1<<40), api.OK},
	} {
		was, _ := s.Head()
		isCode(t, "head", take(c.h), c.want)
		now, is := s.Head()
		if c.want == api.OK && (now != c.h || !is) || c.want != api.OK && now != was {
			t.Errorf("Head: %v, %v", now, is)
		}
		if r := s.Do(api.Ask{Op: "top"}); is && !slices.Equal(r.Texts, []string{head.Text(now)}) {
			t.Errorf("top: %v", r)
		}
	}
	for _, x := range l[4:] {
		isCode(t, "put", s.Do(x.put()), api.OK)
	}
	isCode(t, "a head of what came", take(signed(l, 6, 1<<40)), api.OK)
}

// 25.4: what an honest server answers is verified by whoever knows the root.
func TestProofs(t *testing.T) {
	l := work()
	s, _ := on(t, disk.New(12, 1024))
	for _, x := range l {
		s.Do(x.put())
	}
	d := digests(l)
	for size := range len(l) + 1 {
		root := tree.Root(d[:size])
		for i := range size {
			r := s.Do(api.Ask{Op: "leaf", A: size, B: i})
			if r.Code != 0 || r.Texts[0] != l[i].text || r.Texts[1] != l[i].blob || !tree.Stands(root, size, i, tree.Leaf(r.Texts[0]), r.Texts[2:]) {
				t.Errorf("leaf %d of %d: %d", i, size, r.Code)
			}
		}
		for from := range size + 1 {
			r := s.Do(api.Ask{Op: "bridge", A: from, B: size})
			if r.Code != 0 || !tree.Begins(tree.Root(d[:from]), from, root, size, r.Texts) {
				t.Errorf("bridge %d to %d: %d", from, size, r.Code)
			}
		}
		for n, all := range [][]int{{2}, {0, 2, 4}, {3}, nil} {
			r := s.Do(api.Ask{Op: "find", A: size, S: tag(n)})
			if r.Code != 0 || len(r.Texts) != 1 {
				t.Fatalf("find: %d", r.Code)
			}
			want := slices.DeleteFunc(slices.Clone(all), func(i int) bool { return i >= size })
			a, e := query.Read(r.Texts[0])
			if numbers, f := query.Verify(root, size, tag(n), a); e != api.OK || f != api.OK || !slices.Equal(numbers, want) {
				t.Errorf("find %d of %d: %v, %v, %v", n, size, numbers, e, f)
			}
		}
	}
}

// many is a server of so many entries that have one tag.
func many(t *testing.T, n int) *server.Server {
	t.Helper()
	s, g := on(t, disk.New(64, 1<<16))
	var m maker
	for range n {
		x := m.entry("x", tag(1))
		if _, e := g.Append(x.text, x.blob); e != api.OK {
			t.Fatal(e)
		}
	}
	return s
}

// 25.2: find tells query.Text's error, if an answer has no bytes, or too many.
func TestFindTooMuch(t *testing.T) {
	s := many(t, 1025)
	ask := api.Ask{Op: "find", S: tag(1)}
	long := 0
	for _, c := range []struct {
		size int
		want api.Errno
	}{{0, api.OK}, {1, api.OK}, {64, api.OK}, {300, api.ErrLong}, {1025, api.ErrArg}, {1026, api.ErrArg}} {
		ask.A = c.size
		r := s.Do(ask)
		if r.Code != int(c.want) || (c.want == api.OK) != (len(r.Texts) == 1) {
			t.Errorf("find of %d: %d, %d texts", c.size, r.Code, len(r.Texts))
		}
		if c.want == api.OK {
			long = c.size
		}
		if x := s.Handle(textOf(ask)); x != server.ReplyText(r) {
			t.Errorf("Handle of %d: %.99x", c.size, x)
		}
		ask.S = tag(2)
		if r := s.Do(ask); c.size < 1026 && (r.Code != 0 || len(r.Texts) != 1) {
			t.Errorf("find of what nothing has among %d: %d", c.size, r.Code)
		}
		ask.S = tag(1)
	}
	for ask.A = long; s.Do(ask).Code == 0; ask.A++ {
		if r, e := server.ReadReply(s.Handle(textOf(ask))); e != api.OK || len(r.Texts) != 1 || len(r.Texts[0]) > 65536 {
			t.Errorf("Handle of %d: %d, %v", ask.A, r.Code, e)
		}
	}
	isCode(t, "find", s.Do(ask), api.ErrLong)
}

// 25.2: what is put to a server of the greatest log is there, or is another one.
func TestLong(t *testing.T) {
	s, g := on(t, disk.New(64, 1<<16))
	var m maker
	var last entry
	for range 4096 {
		last = m.entry("x")
		g.Append(last.text, last.blob)
	}
	if s.Len() != 4096 {
		t.Fatalf("Len: %d", s.Len())
	}
	l, _ := leaf.Read(last.text)
	l.Digest = digest.Sum("y")
	isCode(t, "the last one", s.Do(last.put()), api.OK)
	isCode(t, "another last one", s.Do(api.Ask{Op: "put", S: leaf.Text(l), T: "y"}), api.ErrThere)
	isCode(t, "junk", s.Do(api.Ask{Op: "put", S: "junk", T: "y"}), api.ErrLong)
	if r := s.Do(api.Ask{Op: "leaf", A: 4096, B: 4095}); r.Code != 0 || len(r.Texts) != 14 {
		t.Errorf("leaf: %d, %d texts", r.Code, len(r.Texts))
	}
	isCode(t, "leaf", s.Do(api.Ask{Op: "leaf", A: 4096, B: 4096}), api.ErrArg)
	if r := s.Do(api.Ask{Op: "bridge", A: 4096, B: 4096}); r.Code != 0 || len(r.Texts) != 0 {
		t.Errorf("bridge: %d", r.Code)
	}
	if (index.Index{}).Root() != l.Index {
		t.Error("the last leaf's index")
	}
}

// P3: wherever the power fails, what a put answered with OK is there.
func TestCutAnywhere(t *testing.T) {
	l := work()
	for after := 0; ; after++ {
		d := disk.New(12, 1024)
		d.Lay(api.Cut{After: after, Keep: after % 2, Torn: after % 30})
		g, e := ledger.Open(d)
		s := server.New(g)
		done := 0
		if e == api.OK {
			for done < len(l) && s.Do(l[done].put()).Code == 0 {
				done++
			}
		}
		if done == len(l) {
			break
		}
		if !d.Up() {
			t.Fatalf("cut %d: the power did not fail", after)
		}
		s, _ = on(t, d)
		if n := s.Len(); n < done || n > done+1 {
			t.Fatalf("cut %d: %d entries, %d were put", after, n, done)
		}
		for _, x := range l {
			isCode(t, "put again", s.Do(x.put()), api.OK)
		}
	}
}

// R3: what is answered shares no memory with what was handed in, nor with what the server keeps.
func TestRepliesAreOwn(t *testing.T) {
	l := work()
	s, _ := on(t, disk.New(12, 1024))
	s.Do(l[0].put())
	h := signed(l, 1, 7)
	ask := head.Text(h)
	s.Do(api.Ask{Op: "head", S: ask})
	a, _ := s.Head()
	b, _ := s.Head()
	shares := func(a, b string) bool { return unsafe.StringData(a) == unsafe.StringData(b) }
	if shares(a.Root, b.Root) || shares(a.Code, b.Code) || shares(a.Code, ask[strings.Index(ask, a.Code):]) {
		t.Error("Head shares memory")
	}
	for _, q := range []api.Ask{{Op: "top"}, {Op: "leaf", A: 1}, {Op: "find", A: 1, S: tag(1)}} {
		x, y := s.Do(q), s.Do(q)
		if shares(x.Texts[0], y.Texts[0]) || &x.Texts[0] == &y.Texts[0] {
			t.Errorf("%s shares memory", q.Op)
		}
		x.Texts[0] = ""
		if z := s.Do(q); !same(z, y) {
			t.Errorf("%s: what was answered changes what is", q.Op)
		}
	}
}
