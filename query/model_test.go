package query_test

import (
	"crypto/sha256"
	"maps"
	"slices"
	"strings"
	"testing"

	"lockbox/api"
	"lockbox/query"
)

// The second reckoning: by the document's words, each thing from the whole log anew.

func sum(s string) string {
	d := sha256.Sum256([]byte(s))
	return string(d[:])
}

// num, text and list are items as the words of layer 2 write them.
func num(n int) string {
	s := ""
	for ; n > 0; n /= 256 {
		s = string([]byte{byte(n)}) + s
	}
	return string([]byte{byte(len(s))}) + s
}

func text(s string) string { return "\x08" + num(len(s)) + s }

func list(l ...string) string { return "\x09" + num(len(l)) + strings.Join(l, "") }

// power is the greatest power of 2 below n.
func power(n int) int {
	k := 1
	for 2*k < n {
		k *= 2
	}
	return k
}

// topOf is the root of leaves, and the texts of the nodes.
func topOf(leaves []string) (top string, nodes []string) {
	switch len(leaves) {
	case 0:
		return sum(""), nil
	case 1:
		return sum("\x00" + leaves[0]), nil
	}
	k := power(len(leaves))
	a, left := topOf(leaves[:k])
	b, right := topOf(leaves[k:])
	node := "\x01" + a + b
	return sum(node), append(append(left, right...), node)
}

func rootOf(log []string) string {
	root, _ := topOf(log)
	return root
}

// wayOf is the way of a leaf, and the texts that are summed along it, the leaf's ahead.
func wayOf(leaves []string, i int) (way, texts []string) {
	if len(leaves) == 1 {
		return nil, []string{"\x00" + leaves[0]}
	}
	k := power(len(leaves))
	left, right := rootOf(leaves[:k]), rootOf(leaves[k:])
	other := right
	if i < k {
		way, texts = wayOf(leaves[:k], i)
	} else {
		way, texts = wayOf(leaves[k:], i-k)
		other = left
	}
	return append(way, other), append(texts, "\x01"+left+right)
}

// rowsOf are the rows of the index with the leaves that have these tags.
func rowsOf(tags [][]string) []api.Row {
	by := map[string]api.Row{}
	for i, l := range tags {
		for _, tag := range l {
			by[tag] = api.Row{Tag: tag, Count: by[tag].Count + 1, Last: i}
		}
	}
	var rows []api.Row
	for _, tag := range slices.Sorted(maps.Keys(by)) {
		rows = append(rows, by[tag])
	}
	return rows
}

// rowTexts are the leaves of rows.
func rowTexts(rows []api.Row) []string {
	var l []string
	for _, r := range rows {
		l = append(l, list(text(r.Tag), num(r.Count), num(r.Last)))
	}
	return l
}

func indexText(rows []api.Row) string {
	return list(text("index"), num(len(rows)), text(rootOf(rowTexts(rows))))
}

// leafOf is the last of the leaves that have these tags.
func leafOf(tags [][]string) api.Leaf {
	at := len(tags) - 1
	l := api.Leaf{Number: at, Kind: api.LeafEntry, Digest: sum(string([]byte{byte(at), byte(at >> 8)})), Index: sum(indexText(rowsOf(tags)))}
	if at%5 == 2 && len(tags[at]) == 0 {
		l.Kind = api.LeafRequest
	}
	ahead := rowsOf(tags[:at])
	for _, tag := range tags[at] {
		p := api.Posting{Tag: tag}
		for _, r := range ahead {
			if r.Tag == tag {
				p.Prev = r.Last + 1
			}
		}
		l.Tags = append(l.Tags, p)
	}
	return l
}

func leafText(l api.Leaf) string {
	var tags []string
	for _, p := range l.Tags {
		tags = append(tags, list(text(p.Tag), num(p.Prev)))
	}
	return list(num(l.Number), num(l.Kind), text(l.Digest), list(tags...), text(l.Index))
}

// logOf is the well made log of leaves that have these tags.
func logOf(tags ...[]string) []string {
	var log []string
	for i := range tags {
		log = append(log, leafText(leafOf(tags[:i+1])))
	}
	return log
}

func hitOf(log []string, i int) api.Hit {
	way, _ := wayOf(log, i)
	return api.Hit{Leaf: log[i], Way: way}
}

// has are the numbers of the leaves that have a tag.
func has(tags [][]string, tag string) []int {
	var l []int
	for i := range tags {
		if slices.Contains(tags[i], tag) {
			l = append(l, i)
		}
	}
	return l
}

// proofOf is the proof of a tag among rows.
func proofOf(rows []api.Row, tag string) api.IndexProof {
	var ahead, is, behind []int
	for at, r := range rows {
		switch {
		case r.Tag < tag:
			ahead = []int{at}
		case r.Tag == tag:
			is = []int{at}
		case len(behind) == 0:
			behind = []int{at}
		}
	}
	places := is
	if len(is) == 0 {
		places = append(ahead, behind...)
	}
	p := api.IndexProof{Size: len(rows)}
	for _, at := range places {
		way, _ := wayOf(rowTexts(rows), at)
		p.Rows = append(p.Rows, api.RowProof{At: at, Row: rows[at], Way: way})
	}
	return p
}

// answerOf is the answer about a tag of the log of leaves that have these tags.
func answerOf(tags [][]string, tag string) api.Answer {
	if len(tags) == 0 {
		return api.Answer{}
	}
	log := logOf(tags...)
	a := api.Answer{Last: hitOf(log, len(log)-1), Index: proofOf(rowsOf(tags), tag)}
	for _, i := range slices.Backward(has(tags, tag)) {
		a.Hits = append(a.Hits, hitOf(log, i))
	}
	return a
}

func texts(l []string) string {
	var out []string
	for _, s := range l {
		out = append(out, text(s))
	}
	return list(out...)
}

// bytesOf are an answer's bytes, if it has any.
func bytesOf(a api.Answer) string {
	var rows, hits []string
	for _, r := range a.Index.Rows {
		rows = append(rows, list(num(r.At), text(r.Row.Tag), num(r.Row.Count), num(r.Row.Last), texts(r.Way)))
	}
	for _, h := range a.Hits {
		hits = append(hits, list(text(h.Leaf), texts(h.Way)))
	}
	return list(list(text(a.Last.Leaf), texts(a.Last.Way)), list(num(a.Index.Size), list(rows...)), list(hits...))
}

// same tells whether two answers are the same; a nil list is as an empty one.
func same(a, b api.Answer) bool {
	hit := func(a, b api.Hit) bool { return a.Leaf == b.Leaf && slices.Equal(a.Way, b.Way) }
	row := func(a, b api.RowProof) bool { return a.At == b.At && a.Row == b.Row && slices.Equal(a.Way, b.Way) }
	return hit(a.Last, b.Last) && a.Index.Size == b.Index.Size && slices.EqualFunc(a.Index.Rows, b.Index.Rows, row) && slices.EqualFunc(a.Hits, b.Hits, hit)
}

// copied is an answer that shares no list with another one.
func copied(a api.Answer) api.Answer {
	a.Last.Way = slices.Clone(a.Last.Way)
	a.Index.Rows = slices.Clone(a.Index.Rows)
	for i := range a.Index.Rows {
		a.Index.Rows[i].Way = slices.Clone(a.Index.Rows[i].Way)
	}
	a.Hits = slices.Clone(a.Hits)
	for i := range a.Hits {
		a.Hits[i].Way = slices.Clone(a.Hits[i].Way)
	}
	return a
}

func thirtyTwo(c byte) string { return strings.Repeat(string([]byte{c}), 32) }

var a, b, c, d = thirtyTwo('a'), thirtyTwo('b'), thirtyTwo('c'), thirtyTwo('d')

// some are the tags of leaves: first and last ones, pairs, gaps, requests.
func some() [][]string {
	return [][]string{nil, {b}, nil, {b, d}, {d}, {b, c, d}, nil, {b}, nil, {c}, {a, b, c, d}, {d}, nil, {thirtyTwo(0), b, thirtyTwo(0xff)}, nil}
}

// asks are tags that some leaves have, that none has, and such as no leaf can have.
func asks() []string {
	return []string{a, b, c, d, thirtyTwo('A'), b[:31] + "c", thirtyTwo('e'), thirtyTwo(0), thirtyTwo(0xff), thirtyTwo(0)[:31] + "\x01", "", "b", b[:31], b + "b", "\xff"}
}

// refuses asks whether an answer is not verified.
func refuses(t *testing.T, what, root string, size int, tag string, x api.Answer) {
	t.Helper()
	if l, e := query.Verify(root, size, tag, x); e != api.ErrProof || len(l) != 0 {
		t.Errorf("%s: Verify of %.3q among %d: %v, %v", what, tag, size, l, e)
	}
}
