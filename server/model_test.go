package server_test

import (
	"fmt"
	"slices"
	"strings"
	"testing"

	"lockbox/api"
	"lockbox/digest"
	"lockbox/disk"
	"lockbox/head"
	"lockbox/index"
	"lockbox/leaf"
	"lockbox/ledger"
	"lockbox/query"
	"lockbox/server"
	"lockbox/tree"
)

// entry is a leaf's text and a blob.
type entry struct{ text, blob string }

func (x entry) put() api.Ask { return api.Ask{Op: "put", S: x.text, T: x.blob} }

// maker makes the entries of a well made log, one behind the other. A copy of it goes on for itself.
type maker struct {
	x index.Index
	n int
}

func (m *maker) entry(blob string, tags ...string) entry {
	x, postings, e := m.x.With(m.n, tags)
	if e != api.OK {
		panic(e)
	}
	l := api.Leaf{Number: m.n, Kind: api.LeafEntry, Digest: digest.Sum(blob), Tags: postings, Index: x.Root()}
	m.x, m.n = x, m.n+1
	return entry{leaf.Text(l), blob}
}

func tag(n int) string { return fmt.Sprintf("%032d", n) }

// work is a log of a few entries.
func work() []entry {
	var m maker
	return []entry{m.entry("one", tag(1)), m.entry("two"), m.entry("three", tag(0), tag(1)), m.entry(strings.Repeat("\xff", 880), tag(2)), m.entry("five", tag(1)), m.entry("six")}
}

func digests(l []entry) []string {
	var d []string
	for _, x := range l {
		d = append(d, tree.Leaf(x.text))
	}
	return d
}

// signed is a head of the first entries; nobody asks a server for the key.
func signed(l []entry, size, time int) api.Head {
	h, e := head.Sign(strings.Repeat("k", 32), size, tree.Root(digests(l[:size])), time)
	if e != api.OK {
		panic(e)
	}
	return h
}

// on is a server on a disk.
func on(t *testing.T, d *disk.Disk) (*server.Server, *ledger.Ledger) {
	t.Helper()
	g, e := ledger.Open(d)
	s := server.New(g)
	if e != api.OK || s == nil {
		t.Fatalf("New: %v", e)
	}
	return s, g
}

// model is a server as the document's words say, on a ledger that is neither full nor down.
type model struct {
	log []entry
	top *api.Head
}

// do is what a server answers to an ask that may be; what is put is the next entry of a log, or one that is there, or stands behind the next one.
func (m *model) do(a api.Ask, all []entry) api.Reply {
	fails := func(e api.Errno) api.Reply { return api.Reply{Code: int(e)} }
	n := len(m.log)
	switch a.Op {
	case "put":
		at := slices.IndexFunc(all, func(x entry) bool { return x.text == a.S })
		switch {
		case at >= 0 && at < n && all[at].blob != a.T:
			return fails(api.ErrThere)
		case at >= 0 && at < n:
			return api.Reply{}
		case a.T == "" || len(a.T) > 880:
			return fails(api.ErrArg)
		case at < 0:
			return fails(api.ErrForm)
		case all[at].blob != a.T:
			return fails(api.ErrSum)
		case at > n:
			return fails(api.ErrProof)
		}
		m.log = append(m.log, all[at])
		return api.Reply{}
	case "head":
		h, e := head.Read(a.S)
		if e != api.OK {
			return fails(api.ErrForm)
		}
		if h.Size > n || tree.Root(digests(m.log[:h.Size])) != h.Root || m.top != nil && (h.Size < m.top.Size || h.Time < m.top.Time) {
			return fails(api.ErrProof)
		}
		m.top = &h
		return api.Reply{}
	case "top":
		if m.top == nil {
			return fails(api.ErrNone)
		}
		return api.Reply{Texts: []string{head.Text(*m.top)}}
	case "leaf":
		if a.A > n || a.B >= a.A {
			return fails(api.ErrArg)
		}
		way, _ := tree.Way(digests(m.log[:a.A]), a.B)
		return api.Reply{Texts: append([]string{m.log[a.B].text, m.log[a.B].blob}, way...)}
	case "bridge":
		if a.B > n || a.A > a.B {
			return fails(api.ErrArg)
		}
		bridge, _ := tree.Bridge(digests(m.log[:a.B]), a.A)
		return api.Reply{Texts: bridge}
	}
	if a.A > n {
		return fails(api.ErrArg)
	}
	var log []string
	for _, x := range m.log[:a.A] {
		log = append(log, x.text)
	}
	x, _ := query.Make(log, a.S)
	s, _ := query.Text(x)
	return api.Reply{Texts: []string{s}}
}

func same(a, b api.Reply) bool { return a.Code == b.Code && slices.Equal(a.Texts, b.Texts) }
