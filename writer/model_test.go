package writer_test

import (
	"fmt"
	"slices"
	"strings"
	"testing"

	"lockbox/api"
	"lockbox/disk"
	"lockbox/leaf"
	"lockbox/ledger"
	"lockbox/mac"
	"lockbox/shamir"
	"lockbox/writer"
)

// num, text and list are items as the words of layer 2 write them.
func num(n int) string {
	s := ""
	for ; n > 0; n /= 256 {
		s = string([]byte{byte(n)}) + s
	}
	return string([]byte{byte(len(s))}) + s
}

func text(s string) string { return "\x08" + num(len(s)) + s }

func list(l ...string) string { return "\x09" + num(len(l)) + strings.Join(l, "") }

// draw is n bytes that look drawn.
func draw(label string, n int) string {
	s, e := mac.Expand(strings.Repeat("r", 32), label, n)
	if e != api.OK {
		panic(e)
	}
	return s
}

// deal deals a master secret that there is.
func deal(t *testing.T, need, n int) (api.Keys, []api.Share) {
	t.Helper()
	k, l, e := writer.Deal(draw("master", 32), need, n, draw("deal", 32*(need-1)))
	if e != api.OK {
		t.Fatalf("Deal: %v", e)
	}
	return k, l
}

// book is a writer of a new ledger of some extents, and these.
func book(t *testing.T, extents int) (*writer.Writer, *ledger.Ledger, *disk.Disk) {
	t.Helper()
	d := disk.New(extents, 1024)
	g, e := ledger.Open(d)
	k, _ := deal(t, 2, 3)
	w := writer.New(k, g)
	if e != api.OK || w == nil {
		t.Fatalf("New: %v", e)
	}
	return w, g, d
}

// told is all that a ledger and its disk tell.
func told(g *ledger.Ledger, d *disk.Disk) []string {
	l := append([]string{fmt.Sprint(g.Len(), g.Sure(), d.Changes(), d.Waits(), d.Falls(), d.Down())}, g.Log()...)
	for x := range d.Extents() {
		s, _ := d.Read(x)
		l = append(l, s)
	}
	return l
}

// tagsOf are the tags of a ledger's leaf.
func tagsOf(t *testing.T, g *ledger.Ledger, i int) []string {
	t.Helper()
	l, e := leaf.Read(g.Log()[i])
	if e != api.OK {
		t.Fatal(e)
	}
	var tags []string
	for _, p := range l.Tags {
		tags = append(tags, p.Tag)
	}
	return tags
}

// tagOf is a word's tag, as the words of layer 15 say.
func tagOf(k api.Keys, word string) string { return mac.Code(k.Tag, "tag", "\x00", word) }

// tagged are the tags of words, by their bytes.
func tagged(k api.Keys, words ...string) []string {
	var tags []string
	for _, word := range words {
		tags = append(tags, tagOf(k, word))
	}
	slices.Sort(tags)
	return tags
}

// choices are all lists of k of some shares.
func choices(l []api.Share, k int) [][]api.Share {
	if k == 0 {
		return [][]api.Share{nil}
	}
	var all [][]api.Share
	for i := range l {
		for _, rest := range choices(l[i+1:], k-1) {
			all = append(all, append([]api.Share{l[i]}, rest...))
		}
	}
	return all
}

// wrapOf is the key of an agent with a share, as the document's words say.
func wrapOf(s api.Share) string { return mac.Key(shamir.Text(s), "wrap", s.X) }
