package query_test

import (
	"fmt"
	"math"
	"slices"
	"strings"
	"testing"
	"unsafe"

	"lockbox/api"
	"lockbox/query"
)

// 19.1, 19.2: the document's example.
func TestExample(t *testing.T) {
	log := logOf(nil, []string{a}, nil, nil, []string{a}, nil)
	x, e := query.Make(log, a)
	if e != api.OK || len(x.Hits) != 2 || x.Hits[0].Leaf != log[4] || x.Hits[1].Leaf != log[1] {
		t.Fatalf("Make: %d hits, %v", len(x.Hits), e)
	}
	if l, e := query.Verify(rootOf(log), 6, a, x); e != api.OK || !slices.Equal(l, []int{1, 4}) {
		t.Errorf("Verify: %v, %v", l, e)
	}
}

// builds asks whether a log is well made, with these rows.
func builds(t *testing.T, log []string, rows []api.Row) {
	t.Helper()
	x, e := query.Build(log)
	if e != api.OK || !slices.Equal(x.Rows(), rows) {
		t.Errorf("Build of %d: %v, %v", len(log), x.Rows(), e)
	}
}

// breaks asks whether a log has an error.
func breaks(t *testing.T, what string, log []string, want api.Errno) {
	t.Helper()
	if x, e := query.Build(log); e != want || len(x.Rows()) != 0 {
		t.Errorf("%s: Build: %d rows, %v", what, len(x.Rows()), e)
	}
	for _, tag := range []string{a, thirtyTwo('e'), ""} {
		if x, e := query.Make(log, tag); e != want || !same(x, api.Answer{}) {
			t.Errorf("%s: Make: %v, %v", what, x, e)
		}
	}
}

// 19.1: the index of well made logs.
func TestBuild(t *testing.T) {
	builds(t, nil, nil)
	builds(t, []string{}, nil)
	tags := some()
	for n := range len(tags) + 1 {
		builds(t, logOf(tags[:n]...), rowsOf(tags[:n]))
	}
}

// 19.1: logs that are not well made: anything of a leaf is another one.
func TestBuildOfWrong(t *testing.T) {
	tags := some()
	log := logOf(tags...)
	for at := range log {
		ill := func(what string, change func(l *api.Leaf)) {
			t.Helper()
			l := leafOf(tags[:at+1])
			change(&l)
			ill := slices.Clone(log)
			ill[at] = leafText(l)
			breaks(t, what, ill, api.ErrForm)
			breaks(t, what, ill[:at+1], api.ErrForm)
		}
		for _, n := range []int{at + 1, at - 1, at + 256, 4095} {
			if n != at && n >= 0 {
				ill("another number", func(l *api.Leaf) { l.Number = n })
			}
		}
		ill("another kind", func(l *api.Leaf) { l.Kind = 3 })
		ill("no digest", func(l *api.Leaf) { l.Digest = "" })
		ill("another index", func(l *api.Leaf) { l.Index = sum(l.Index) })
		ill("the index ahead", func(l *api.Leaf) { l.Index = sum(indexText(rowsOf(append(tags[:at:at], []string{thirtyTwo('e')})))) })
		if len(tags[at]) > 0 {
			ill("the index without it", func(l *api.Leaf) { l.Index = sum(indexText(rowsOf(tags[:at]))) })
			ill("no tags", func(l *api.Leaf) { l.Tags = nil })
			ill("one tag too few", func(l *api.Leaf) { l.Tags = l.Tags[1:] })
			ill("a request with tags", func(l *api.Leaf) { l.Kind = api.LeafRequest })
			for i, p := range leafOf(tags[:at+1]).Tags {
				for _, prev := range []int{p.Prev - 1, p.Prev + 1, at, 0} {
					if prev != p.Prev && prev >= 0 {
						ill("another leaf ahead", func(l *api.Leaf) { l.Tags[i].Prev = prev })
					}
				}
				ill("another tag", func(l *api.Leaf) { l.Tags[i].Tag = l.Tags[i].Tag[:31] + "x" })
			}
			ill("the tags backwards, or twice", func(l *api.Leaf) { l.Tags = append(slices.Clone(l.Tags), l.Tags[0]) })
		}
		ill("one tag more", func(l *api.Leaf) { l.Tags = append(l.Tags, api.Posting{Tag: thirtyTwo(0xff)}) })
		for _, s := range []string{"", "x", log[at] + "\x00", log[at][:len(log[at])-1], "\x08" + log[at]} {
			bad := slices.Clone(log)
			bad[at] = s
			breaks(t, "no leaf", bad, api.ErrForm)
		}
		if at > 0 {
			breaks(t, "two changed places", slices.Concat(log[:at-1], []string{log[at], log[at-1]}, log[at+1:]), api.ErrForm)
			breaks(t, "the first ones are missing", log[at:], api.ErrForm)
			breaks(t, "one is there twice", slices.Concat(log[:at], log[at-1:]), api.ErrForm)
		}
	}
}

// 19.1: as many leaves as there may be, and one more; more rows than there may be.
func TestBuildOfMany(t *testing.T) {
	var tags [][]string
	for i := range api.MaxLeaves {
		tags = append(tags, nil)
		if i%2048 == 2047 {
			tags[i] = []string{b}
		}
	}
	var log []string
	for i := range tags {
		ahead := tags[max(0, i-1) : i+1] // the tags of those further ahead are told by hand: there are two
		l := leafOf(ahead)
		l.Number, l.Digest = i, d
		switch {
		case i == 4095:
			l.Tags, l.Index = []api.Posting{{Tag: b, Prev: 2048}}, sum(indexText([]api.Row{{Tag: b, Count: 2, Last: 4095}}))
		case i >= 2047:
			l.Index = sum(indexText([]api.Row{{Tag: b, Count: 1, Last: 2047}}))
		}
		log = append(log, leafText(l))
	}
	builds(t, log, []api.Row{{Tag: b, Count: 2, Last: 4095}})
	x, e := query.Make(log, b)
	if l, f := query.Verify(rootOf(log), 4096, b, x); e != api.OK || f != api.OK || !slices.Equal(l, []int{2047, 4095}) {
		t.Errorf("Verify: %v, %v, %v", l, e, f)
	}
	breaks(t, "one leaf more", append(log, log[0]), api.ErrLong)
	breaks(t, "too many, and no leaves", make([]string, api.MaxLeaves+1), api.ErrLong)
	breaks(t, "no leaves", make([]string, api.MaxLeaves), api.ErrForm)
}

// 19.1: a leaf with which there would be more rows than there may be makes no log.
func TestBuildOfMoreRows(t *testing.T) {
	var tags [][]string
	for i := range 342 {
		tags = append(tags, nil)
		for j := range 12 {
			tags[i] = append(tags[i], fmt.Sprintf("%032d", 12*i+j))
		}
	}
	tags[341] = tags[341][:4]
	var log []string
	var rows []api.Row
	for i, l := range tags { // the rows stand in the order in which they come
		one := api.Leaf{Number: i, Kind: api.LeafEntry, Digest: d}
		for _, tag := range l {
			one.Tags = append(one.Tags, api.Posting{Tag: tag})
			rows = append(rows, api.Row{Tag: tag, Count: 1, Last: i})
		}
		one.Index = sum(indexText(rows))
		log = append(log, leafText(one))
	}
	builds(t, log, rows)
	rows = append(rows, api.Row{Tag: thirtyTwo('e'), Count: 1, Last: 342})
	more := api.Leaf{Number: 342, Kind: api.LeafEntry, Digest: d, Tags: []api.Posting{{Tag: thirtyTwo('e')}}, Index: sum(indexText(rows))}
	if x, e := query.Build(append(log, leafText(more))); e != api.ErrForm || len(x.Rows()) != 0 {
		t.Errorf("a row too many: Build: %d rows, %v", len(x.Rows()), e)
	}
}

// 19.1: the answers about any tags, of the beginnings of a log.
func TestMake(t *testing.T) {
	tags := some()
	for n := range len(tags) + 1 {
		log := logOf(tags[:n]...)
		for _, tag := range asks() {
			x, e := query.Make(log, tag)
			if e != api.OK || !same(x, answerOf(tags[:n], tag)) {
				t.Fatalf("Make of %.3q among %d: %v, %v", tag, n, x, e)
			}
		}
	}
}

// 19.3: the texts that are summed when an answer is verified.
func TestTexts(t *testing.T) {
	tags := some()
	for n := 1; n <= len(tags); n++ {
		log, rows := logOf(tags[:n]...), rowsOf(tags[:n])
		for _, tag := range asks() {
			x := answerOf(tags[:n], tag)
			_, want := wayOf(log, n-1)
			for _, i := range slices.Backward(has(tags[:n], tag)) {
				_, l := wayOf(log, i)
				want = append(want, l...)
			}
			for _, r := range x.Index.Rows {
				_, l := wayOf(rowTexts(rows), r.At)
				want = append(append(want, l...), indexText(rows))
			}
			if len(rows) == 0 {
				want = append(want, indexText(nil))
			}
			if got := query.Texts(n, x); !slices.Equal(got, want) {
				t.Fatalf("Texts of %.3q among %d: %d, not %d", tag, n, len(got), len(want))
			}
		}
	}
}

// 19.3: of what leads nowhere there is the leaf's text alone.
func TestTextsOfAny(t *testing.T) {
	tags := some()
	log := logOf(tags...)
	n := len(log)
	x := answerOf(tags, c)
	all := query.Texts(n, x)
	last, hits, proof := all[:4], all[4:19], all[19:] // of 15 leaves each has a way of 4, but the last one, whose way has 3
	if len(x.Hits) != 3 || len(x.Index.Rows) != 1 || len(x.Index.Rows[0].Way)+2 != len(proof) {
		t.Fatalf("of %d hits and %d rows there are %d texts", len(x.Hits), len(x.Index.Rows), len(all))
	}
	ask := func(what string, size int, change func(x *api.Answer), want ...[]string) {
		t.Helper()
		ill := copied(x)
		change(&ill)
		if got := query.Texts(size, ill); !slices.Equal(got, slices.Concat(want...)) {
			t.Errorf("%s: Texts: %d, not %d", what, len(got), len(slices.Concat(want...)))
		}
	}
	ask("as it is", n, func(x *api.Answer) {}, last, hits, proof)
	ask("no hits", n, func(x *api.Answer) { x.Hits = nil }, last, proof)
	ask("no rows", n, func(x *api.Answer) { x.Index.Rows = nil }, last, hits)
	ask("no index", n, func(x *api.Answer) { x.Index = api.IndexProof{} }, last, hits, []string{indexText(nil)})
	ask("the last one's way is too short", n, func(x *api.Answer) { x.Last.Way = x.Last.Way[1:] }, last[:1], hits, proof)
	ask("the last one's way is none", n, func(x *api.Answer) { x.Last.Way[0] = "" }, last[:1], hits, proof)
	ask("no last one", n, func(x *api.Answer) { x.Last = api.Hit{} }, []string{"\x00"}, hits, proof)
	ask("a last one that is no leaf", n, func(x *api.Answer) { x.Last.Leaf = "any" }, []string{"\x00any"}, climbed(n, n-1, "any", x.Last.Way), hits, proof)
	ask("a last one of another number", n, func(x *api.Answer) { x.Last.Leaf = log[3] }, []string{"\x00" + log[3]}, climbed(n, n-1, log[3], x.Last.Way), hits, proof)
	ask("a hit's way is too long", n, func(x *api.Answer) { x.Hits[0].Way = append(x.Hits[0].Way, d) }, last, hits[:1], hits[5:], proof)
	ask("a hit's way is none", n, func(x *api.Answer) { x.Hits[1].Way[3] = d[:31] }, last, hits[:6], hits[10:], proof)
	ask("a hit that is no leaf", n, func(x *api.Answer) { x.Hits[1].Leaf = "any" }, last, hits[:5], []string{"\x00any"}, hits[10:], proof)
	ask("a hit of another number", n, func(x *api.Answer) { x.Hits[1].Leaf = log[2] }, last, hits[:5], []string{"\x00" + log[2]}, climbed(n, 2, log[2], x.Hits[1].Way), hits[10:], proof)
	ask("a hit beyond the log", n, func(x *api.Answer) { x.Hits[1].Leaf = leafText(api.Leaf{Number: 15, Kind: 1, Digest: d, Index: d}) }, last, hits[:5], []string{"\x00" + leafText(api.Leaf{Number: 15, Kind: 1, Digest: d, Index: d})}, hits[10:], proof)
	leaves := []string{"\x00" + x.Last.Leaf, "\x00" + x.Hits[0].Leaf, "\x00" + x.Hits[1].Leaf, "\x00" + x.Hits[2].Leaf}
	for _, size := range []int{0, -1, 4097, math.MinInt, math.MaxInt} {
		ask("of a size that may not be", size, func(x *api.Answer) {}, leaves, proof)
	}
	for _, size := range []int{0, 1, -1, 5, math.MinInt} {
		if got := query.Texts(size, api.Answer{}); !slices.Equal(got, slices.Concat([]string{"\x00"}, climbed(size, size-1, "", nil), []string{indexText(nil)})) {
			t.Errorf("Texts of nothing among %d: %q", size, got)
		}
	}
}

// climbed are the texts of nodes along a way of any leaf, at a place whose way has as many digests.
func climbed(n, i int, leaf string, way []string) []string {
	var texts []string
	at := sum("\x00" + leaf)
	for last := n - 1; last > 0 && len(way) > 0; i, last = i/2, last/2 {
		if i == last && i%2 == 0 {
			continue
		}
		node := "\x01" + at + way[0]
		if i%2 == 1 {
			node = "\x01" + way[0] + at
		}
		texts, at, way = append(texts, node), sum(node), way[1:]
	}
	return texts
}

// R3: what is handed in is not changed, and no answer shares memory with it, or with another one.
func TestMemory(t *testing.T) {
	log := logOf(some()...)
	was := slices.Clone(log)
	x, _ := query.Make(log, b)
	y, _ := query.Make(log, b)
	s, _ := query.Text(x)
	z, _ := query.Read(s)
	in := func(p, s string) bool {
		from, at := uintptr(unsafe.Pointer(unsafe.StringData(s))), uintptr(unsafe.Pointer(unsafe.StringData(p)))
		return at >= from && at < from+uintptr(len(s))
	}
	for i := range x.Hits {
		if in(x.Hits[i].Leaf, y.Hits[i].Leaf) || in(z.Hits[i].Leaf, s) || in(z.Hits[i].Way[0], s) {
			t.Error("a hit shares memory")
		}
		for _, text := range log {
			if in(x.Hits[i].Leaf, text) || in(x.Last.Leaf, text) {
				t.Error("a leaf shares memory with the log")
			}
		}
	}
	if in(z.Last.Leaf, s) || in(z.Index.Rows[0].Row.Tag, s) || in(z.Index.Rows[0].Way[0], s) || in(x.Index.Rows[0].Row.Tag, b) {
		t.Error("an answer shares memory with what was handed in")
	}
	before := copied(x)
	query.Verify(rootOf(log), len(log), b, x)
	query.Texts(len(log), x)
	if !slices.Equal(log, was) || !same(x, before) {
		t.Error("what was handed in is another one")
	}
	x.Hits[0].Way[0], x.Last.Way[0], x.Index.Rows[0].Row.Count = "", "", 7
	if again, _ := query.Make(log, b); !same(y, again) {
		t.Error("an answer that was changed changes another one")
	}
	if strings.Join(log, "") != strings.Join(was, "") {
		t.Error("the log was changed")
	}
}
