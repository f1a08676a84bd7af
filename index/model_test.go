package index_test

import (
	"crypto/sha256"
	"fmt"
	"maps"
	"slices"
	"strings"
	"testing"

	"lockbox/api"
	"lockbox/index"
)

// The second reckoning: by the document's words, from all leaves anew.

func sum(s string) string {
	d := sha256.Sum256([]byte(s))
	return string(d[:])
}

// num, text and list are items as the words of layer 2 write them.
func num(n int) string {
	s := ""
	for ; n > 0; n /= 256 {
		s = string([]byte{byte(n)}) + s
	}
	return string([]byte{byte(len(s))}) + s
}

func text(s string) string { return "\x08" + num(len(s)) + s }

func list(l ...string) string { return "\x09" + num(len(l)) + strings.Join(l, "") }

// taken is a leaf that an index took: its number, its tags.
type taken struct {
	number int
	tags   []string
}

// rowsOf are the rows of an index that took some leaves.
func rowsOf(l []taken) []api.Row {
	by := map[string]api.Row{}
	for _, x := range l {
		for _, tag := range x.tags {
			by[tag] = api.Row{Tag: tag, Count: by[tag].Count + 1, Last: x.number}
		}
	}
	var rows []api.Row
	for _, tag := range slices.Sorted(maps.Keys(by)) {
		rows = append(rows, by[tag])
	}
	return rows
}

func rowBytes(r api.Row) string { return list(text(r.Tag), num(r.Count), num(r.Last)) }

func rootBytes(size int, top string) string {
	return list(text("index"), num(size), text(top))
}

// power is the greatest power of 2 below n.
func power(n int) int {
	k := 1
	for 2*k < n {
		k *= 2
	}
	return k
}

// topOf is the root of the leaves of rows, and the texts of the nodes that are summed for it.
func topOf(rows []api.Row) (top string, nodes []string) {
	switch len(rows) {
	case 0:
		return sum(""), nil
	case 1:
		return sum("\x00" + rowBytes(rows[0])), nil
	}
	k := power(len(rows))
	a, left := topOf(rows[:k])
	b, right := topOf(rows[k:])
	node := "\x01" + a + b
	return sum(node), append(append(left, right...), node)
}

// rootOf is an index's root by its rows.
func rootOf(rows []api.Row) string {
	top, _ := topOf(rows)
	return sum(rootBytes(len(rows), top))
}

// wayOf is the way of a row, and the texts that are summed along it.
func wayOf(rows []api.Row, i int) (way, texts []string) {
	if len(rows) == 1 {
		return nil, []string{"\x00" + rowBytes(rows[0])}
	}
	k := power(len(rows))
	left, _ := topOf(rows[:k])
	right, _ := topOf(rows[k:])
	other := right
	if i < k {
		way, texts = wayOf(rows[:k], i)
	} else {
		way, texts = wayOf(rows[k:], i-k)
		other = left
	}
	return append(way, other), append(texts, "\x01"+left+right)
}

// shown is a proof that shows the rows of some places, whatever they are.
func shown(rows []api.Row, places ...int) api.IndexProof {
	p := api.IndexProof{Size: len(rows)}
	for _, at := range places {
		way, _ := wayOf(rows, at)
		p.Rows = append(p.Rows, api.RowProof{At: at, Row: rows[at], Way: way})
	}
	return p
}

// proofOf is the proof of a tag.
func proofOf(rows []api.Row, tag string) api.IndexProof {
	ahead := 0
	for at, r := range rows {
		if r.Tag == tag {
			return shown(rows, at)
		}
		if r.Tag < tag {
			ahead++
		}
	}
	switch {
	case len(rows) == 0:
		return shown(rows)
	case ahead == 0:
		return shown(rows, 0)
	case ahead == len(rows):
		return shown(rows, ahead-1)
	}
	return shown(rows, ahead-1, ahead)
}

// textsOf are the texts of a proof that was made by shown.
func textsOf(rows []api.Row, p api.IndexProof) []string {
	top, _ := topOf(rows)
	if len(rows) == 0 {
		return []string{rootBytes(0, top)}
	}
	var texts []string
	for _, r := range p.Rows {
		_, l := wayOf(rows, r.At)
		texts = append(append(texts, l...), rootBytes(len(rows), top))
	}
	return texts
}

// sameProof tells whether two proofs are the same; a nil list is as an empty one.
func sameProof(a, b api.IndexProof) bool {
	return a.Size == b.Size && slices.EqualFunc(a.Rows, b.Rows, func(x, y api.RowProof) bool {
		return x.At == y.At && x.Row == y.Row && slices.Equal(x.Way, y.Way)
	})
}

// copied is a proof that shares no list with another one.
func copied(p api.IndexProof) api.IndexProof {
	p.Rows = slices.Clone(p.Rows)
	for i := range p.Rows {
		p.Rows[i].Way = slices.Clone(p.Rows[i].Way)
	}
	return p
}

// tagOf is a tag by a number, rising with it.
func tagOf(n int) string { return fmt.Sprintf("%08d%s", n, strings.Repeat("t", 24)) }

// tagsOf are so many tags from a number on.
func tagsOf(from, n int) []string {
	var l []string
	for i := range n {
		l = append(l, tagOf(from+i))
	}
	return l
}

// made is an index that takes leaves in their order.
func made(t *testing.T, l ...taken) index.Index {
	t.Helper()
	var x index.Index
	for _, one := range l {
		y, _, e := x.With(one.number, one.tags)
		if e != api.OK {
			t.Fatalf("With(%d): %v", one.number, e)
		}
		x = y
	}
	return x
}

// rowed is an index of so many rows, of the tags 2, 4, 6 and so on, with counts and last numbers of many kinds.
func rowed(t *testing.T, n int) (index.Index, []api.Row) {
	t.Helper()
	var l []taken
	for i := range n {
		l = append(l, taken{3 * i, []string{tagOf(2 * (n - i))}}, taken{3*i + 1, tagsTwice(n-i, n)})
	}
	return made(t, l...), rowsOf(l)
}

// tagsTwice are some of the even tags that are there already.
func tagsTwice(from, n int) []string {
	var l []string
	for i := from; i <= n && len(l) < 3; i += 2 {
		l = append(l, tagOf(2*i))
	}
	return l
}

// asks are tags that n rows made by rowed have, that they have not, and such as no row has.
func asks(n int) []string {
	l := []string{"", "0", "00000003", "\xff", tagOf(3) + "x", tagOf(4)[:31], strings.Repeat("\x00", 32), strings.Repeat("\xff", 32), strings.Repeat("z", 99)}
	return append(l, tagsOf(0, 2*n+3)...)
}

// proves asks whether a proof tells of a tag what the rows say.
func proves(t *testing.T, rows []api.Row, tag string, p api.IndexProof) {
	t.Helper()
	var want api.Row
	at := slices.IndexFunc(rows, func(r api.Row) bool { return r.Tag == tag })
	if at >= 0 {
		want = rows[at]
	}
	row, is, e := index.Verify(rootOf(rows), tag, p)
	if e != api.OK || is != (at >= 0) || row != want {
		t.Errorf("Verify of %.10q among %d rows: %v, %v, %v", tag, len(rows), row, is, e)
	}
}

// refuses asks whether a proof proves nothing.
func refuses(t *testing.T, what, root, tag string, p api.IndexProof) {
	t.Helper()
	if row, is, e := index.Verify(root, tag, p); e != api.ErrProof || is || row != (api.Row{}) {
		t.Errorf("%s: Verify of %.10q: %v, %v, %v", what, tag, row, is, e)
	}
}
