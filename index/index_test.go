package index_test

import (
	"math"
	"math/rand"
	"slices"
	"strings"
	"testing"
	"unsafe"

	"lockbox/api"
	"lockbox/index"
	"lockbox/tree"
)

func thirtyTwo(c byte) string { return strings.Repeat(string([]byte{c}), 32) }

// holds asks whether an index has just these rows, by all that it tells of them.
func holds(t *testing.T, x index.Index, rows []api.Row) {
	t.Helper()
	if !slices.Equal(x.Rows(), rows) {
		t.Fatalf("Rows: %v, not %v", x.Rows(), rows)
	}
	if x.Root() != rootOf(rows) {
		t.Fatalf("Root of %d rows: %x", len(rows), x.Root())
	}
	for _, r := range rows {
		if found, is := x.Find(r.Tag); !is || found != r {
			t.Fatalf("Find of %.10q: %v, %v", r.Tag, found, is)
		}
	}
}

// 18.1: the document's example.
func TestExample(t *testing.T) {
	a, b := thirtyTwo('a'), thirtyTwo('b')
	x, _, e := index.Index{}.With(0, []string{a, b})
	if e != api.OK {
		t.Fatal(e)
	}
	y, postings, e := x.With(1, []string{b})
	if e != api.OK || !slices.Equal(postings, []api.Posting{{Tag: b, Prev: 1}}) {
		t.Errorf("the second one's postings: %v, %v", postings, e)
	}
	holds(t, y, []api.Row{{Tag: a, Count: 1, Last: 0}, {Tag: b, Count: 2, Last: 1}})
}

// 18.1: the zero index, and indexes of leaves without tags.
func TestNoRows(t *testing.T) {
	none := made(t, taken{0, nil}, taken{5, []string{}}, taken{api.MaxLeaves - 1, nil}, taken{0, nil})
	for _, x := range []index.Index{{}, none} {
		holds(t, x, nil)
		for _, tag := range asks(2) {
			if row, is := x.Find(tag); is || row != (api.Row{}) {
				t.Errorf("Find of %.10q: %v", tag, row)
			}
		}
		if x.Root() != sum("\x09\x01\x03\x08\x01\x05index\x00\x08\x01\x20"+sum("")) {
			t.Error("the root of no rows")
		}
	}
}

// 18.1: rows, postings and roots of any leaves; what an index was it stays, whatever goes on from it.
func TestWith(t *testing.T) {
	r := rand.New(rand.NewSource(1))
	pool := append(tagsOf(0, 30), thirtyTwo(0), thirtyTwo(0x7f), thirtyTwo(0x80), thirtyTwo(0xff), thirtyTwo(0)[:31]+"\x01", thirtyTwo('0'))
	for range 12 {
		var x index.Index
		var l []taken
		older := []index.Index{x}
		number := r.Intn(3)
		for number < api.MaxLeaves && len(l) < 60 {
			tags := r.Perm(len(pool))[:r.Intn(api.MaxTags+1)]
			one := taken{number: number}
			for _, i := range tags {
				one.tags = append(one.tags, pool[i])
			}
			slices.Sort(one.tags)
			before := rowsOf(l)
			y, postings, e := x.With(number, one.tags)
			if e != api.OK || !slices.Equal(postings, postingsOf(before, one.tags)) {
				t.Fatalf("With(%d): %v, %v", number, postings, e)
			}
			l = append(l, one)
			x, older = y, append(older, y)
			holds(t, x, rowsOf(l))
			number += 1 + r.Intn(3)*r.Intn(60)
		}
		for i, x := range older {
			holds(t, x, rowsOf(l[:i]))
		}
	}
}

// postingsOf are those of tags behind rows.
func postingsOf(rows []api.Row, tags []string) []api.Posting {
	var l []api.Posting
	for _, tag := range tags {
		p := api.Posting{Tag: tag}
		for _, r := range rows {
			if r.Tag == tag {
				p.Prev = r.Last + 1
			}
		}
		l = append(l, p)
	}
	return l
}

// 18.1: from one index several go on, each for itself.
func TestBranches(t *testing.T) {
	stem := []taken{{0, tagsOf(10, 5)}, {1, tagsOf(12, 6)}}
	x := made(t, stem...)
	rows := rowsOf(stem)
	for range 2 { // the second time what went on first must have left no trace
		for from := range 20 {
			for n := range 4 {
				one := taken{7 + from, tagsOf(from, n)}
				y, postings, e := x.With(one.number, one.tags)
				if e != api.OK || !slices.Equal(postings, postingsOf(rows, one.tags)) {
					t.Fatalf("With(%d): %v, %v", one.number, postings, e)
				}
				holds(t, y, rowsOf(append(slices.Clone(stem), one)))
				holds(t, x, rows)
			}
		}
	}
}

// 18.1: the least and the greatest number, at which all rows stand ahead.
func TestNumbers(t *testing.T) {
	one := []string{tagOf(1)}
	x := made(t, taken{0, one}, taken{api.MaxLeaves - 2, one}, taken{api.MaxLeaves - 1, one})
	holds(t, x, []api.Row{{Tag: one[0], Count: 3, Last: api.MaxLeaves - 1}})
	for _, number := range []int{0, api.MaxLeaves - 1, api.MaxLeaves} {
		fails(t, x, number, nil, api.ErrArg)
	}
	var l []taken
	for i := range api.MaxLeaves {
		l = append(l, taken{i, one})
	}
	holds(t, made(t, l...), []api.Row{{Tag: one[0], Count: api.MaxLeaves, Last: api.MaxLeaves - 1}})
}

// fails asks whether With has an error, and the index stays as it was.
func fails(t *testing.T, x index.Index, number int, tags []string, want api.Errno) {
	t.Helper()
	was := x.Rows()
	y, postings, e := x.With(number, tags)
	if e != want || len(postings) != 0 || len(y.Rows()) != 0 {
		t.Errorf("With(%d) of %d tags: %d rows, %v, %v, not %v", number, len(tags), len(y.Rows()), postings, e, want)
	}
	if !slices.Equal(x.Rows(), was) {
		t.Errorf("With(%d) of %d tags changed the index", number, len(tags))
	}
}

// 18.1: numbers and tags that may not be.
func TestWithOfWrong(t *testing.T) {
	a, b, c := thirtyTwo('a'), thirtyTwo('b'), thirtyTwo('c')
	x := made(t, taken{3, []string{a}}, taken{6, []string{b}}, taken{8, []string{a}})
	for _, number := range []int{-1, 0, 3, 6, 7, 8, api.MaxLeaves, api.MaxLeaves + 1, math.MinInt, math.MaxInt} {
		fails(t, x, number, nil, api.ErrArg)
		fails(t, x, number, []string{c}, api.ErrArg)
		fails(t, x, number, []string{a, c}, api.ErrArg)
	}
	for _, tags := range [][]string{
		{""}, {"a"}, {a[:31]}, {a + "a"}, {a, b[:31]}, {a, b, c + c}, {"", a}, {a, ""},
		{b, a}, {a, a}, {a, b, b}, {a, c, b}, {a, b, a}, {thirtyTwo(0x80), thirtyTwo(0x7f)}, {thirtyTwo(0xff), thirtyTwo(0)},
		tagsOf(0, 13), tagsOf(0, 5000), make([]string, 13), slices.Repeat([]string{a}, 13), append(tagsOf(0, 12), ""),
	} {
		fails(t, x, 9, tags, api.ErrArg)
		fails(t, index.Index{}, 0, tags, api.ErrArg)
	}
	for _, tags := range [][]string{tagsOf(0, 12), {thirtyTwo(0x7f), thirtyTwo(0x80)}, {thirtyTwo(0), thirtyTwo(0xff)}, nil} {
		if _, _, e := x.With(9, tags); e != api.OK {
			t.Errorf("With of %d tags: %v", len(tags), e)
		}
	}
	fails(t, index.Index{}, -1, nil, api.ErrArg)
	fails(t, index.Index{}, api.MaxLeaves, nil, api.ErrArg)
}

// 18.1: as many rows as there may be, and one more.
func TestFull(t *testing.T) {
	if index.MaxRows != 4096 {
		t.Fatalf("MaxRows is %d", index.MaxRows)
	}
	var l []taken
	for i := range 341 { // 12 each: 4 are left
		l = append(l, taken{i, tagsOf(1000+12*i, 12)})
	}
	x := made(t, l...)
	fails(t, x, 341, tagsOf(0, 5), api.ErrFull)
	fails(t, x, 341, tagsOf(999, 12+1), api.ErrArg)
	for _, tags := range [][]string{tagsOf(0, 4), tagsOf(996, 12), tagsOf(1000+12*341-8, 12)} {
		y, postings, e := x.With(341, tags)
		if e != api.OK || len(postings) != len(tags) || len(y.Rows()) != index.MaxRows {
			t.Fatalf("With of the last rows: %d, %v", len(y.Rows()), e)
		}
		holds(t, y, rowsOf(append(slices.Clone(l), taken{341, tags})))
		for _, more := range [][]string{{tagOf(9999)}, {tagOf(5)}, {tagOf(1000), tagOf(9999)}, tagsOf(9000, 12)} {
			fails(t, y, 342, more, api.ErrFull)
			fails(t, y, 341, more, api.ErrArg)
			fails(t, y, api.MaxLeaves, more, api.ErrArg)
		}
		if z, _, e := y.With(342, tagsOf(1000, 12)); e != api.OK || len(z.Rows()) != index.MaxRows {
			t.Errorf("With of tags that have rows: %v", e)
		}
	}
}

// 18.3: the texts of the root: the leaves', those of nodes, and the root's as the last one.
func TestTexts(t *testing.T) {
	for n := range 20 {
		x, rows := rowed(t, n)
		texts := x.Texts()
		top, nodes := topOf(rows)
		if len(texts) == 0 || texts[len(texts)-1] != rootBytes(n, top) || sum(texts[len(texts)-1]) != x.Root() {
			t.Fatalf("Texts of %d rows: %d, and the last one is not the root's", n, len(texts))
		}
		var leaves, lists []string
		for _, r := range rows {
			leaves = append(leaves, "\x00"+rowBytes(r))
			lists = append(lists, rowBytes(r))
		}
		if !slices.Equal(texts[:n], leaves) || !slices.Equal(texts[:len(texts)-1], tree.Texts(lists)) {
			t.Errorf("Texts of %d rows: those of the tree", n)
		}
		others := slices.Clone(texts[n : len(texts)-1])
		slices.Sort(others)
		slices.Sort(nodes)
		if !slices.Equal(others, nodes) {
			t.Errorf("Texts of %d rows: %d of nodes", n, len(others))
		}
	}
}

// R3: what is handed in is neither changed nor kept, and no answer shares memory.
func TestMemory(t *testing.T) {
	tags := append(tagsOf(1, 3), "behind")[:3]
	x, postings, _ := index.Index{}.With(4, tags)
	if !slices.Equal(tags[:4], append(tagsOf(1, 3), "behind")) {
		t.Fatal("the tags that were handed in are others")
	}
	y, others, _ := x.With(5, tags)
	found, _ := x.Find(tags[0])
	again, _ := x.Find(tags[0])
	proof := x.Prove(tags[0])
	row, _, _ := index.Verify(x.Root(), tags[0], proof)
	same := map[*byte]int{}
	for i, s := range []string{tags[0], postings[0].Tag, others[0].Tag, found.Tag, again.Tag, x.Rows()[0].Tag, x.Rows()[0].Tag, y.Rows()[0].Tag, proof.Rows[0].Row.Tag, x.Prove(tags[0]).Rows[0].Row.Tag, row.Tag} {
		if j, there := same[unsafe.StringData(s)]; there || s != tagOf(1) {
			t.Errorf("%d is %q, or shares memory with %d", i, s, j)
		}
		same[unsafe.StringData(s)] = i
	}
	x.Rows()[1].Count = 9
	postings[1].Tag, proof.Rows[0].Row.Count, proof.Rows[0].Way[0] = "", 9, ""
	tags[0], tags[1] = tags[1], tags[0]
	x.Texts()[0] = ""
	holds(t, x, rowsOf([]taken{{4, tagsOf(1, 3)}}))
	holds(t, y, rowsOf([]taken{{4, tagsOf(1, 3)}, {5, tagsOf(1, 3)}}))
	proves(t, x.Rows(), tagOf(1), x.Prove(tagOf(1)))
}
