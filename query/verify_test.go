package query_test

import (
	"math"
	"math/rand"
	"slices"
	"testing"

	"lockbox/api"
	"lockbox/query"
	"lockbox/tree"
)

// 19.2, 19.4: an honest answer tells just the leaves that have the tag.
func TestVerify(t *testing.T) {
	tags := some()
	for n := range len(tags) + 1 {
		root := rootOf(logOf(tags[:n]...))
		for _, tag := range asks() {
			x := answerOf(tags[:n], tag)
			if l, e := query.Verify(root, n, tag, x); e != api.OK || !slices.Equal(l, has(tags[:n], tag)) {
				t.Errorf("Verify of %.3q among %d: %v, %v", tag, n, l, e)
			}
		}
	}
}

// 19.2: of size 0 an answer is zero, under the root of no leaves.
func TestVerifyOfNone(t *testing.T) {
	none := rootOf(nil)
	empty := api.Answer{Last: api.Hit{Way: []string{}}, Index: api.IndexProof{Rows: []api.RowProof{}}, Hits: []api.Hit{}}
	x := answerOf([][]string{{a}}, a)
	y := answerOf([][]string{nil}, a)
	for _, tag := range asks() {
		for _, zero := range []api.Answer{{}, empty} {
			if l, e := query.Verify(none, 0, tag, zero); e != api.OK || len(l) != 0 {
				t.Errorf("Verify of %.3q among none: %v, %v", tag, l, e)
			}
			for _, root := range []string{"", none[:31], none + "\x00", sum("\x00"), rootOf([]string{""}), sum(indexText(nil)), sum(none)} {
				refuses(t, "another root", root, 0, tag, zero)
			}
			for _, size := range []int{1, 2, 4096, 4097, -1, math.MinInt, math.MaxInt} {
				refuses(t, "another size", none, size, tag, zero)
				refuses(t, "another size", rootOf([]string{""}), size, tag, zero)
			}
		}
		for i, ill := range []api.Answer{
			{Last: api.Hit{Leaf: "x"}}, {Last: api.Hit{Way: []string{""}}}, {Last: y.Last}, {Index: api.IndexProof{Size: 1}}, {Index: api.IndexProof{Size: -1}}, {Index: api.IndexProof{Rows: make([]api.RowProof, 1)}}, {Index: x.Index}, {Hits: make([]api.Hit, 1)}, {Hits: x.Hits}, x, y,
		} {
			if l, e := query.Verify(none, 0, tag, ill); e != api.ErrProof || len(l) != 0 {
				t.Errorf("%d: Verify of %.3q among none: %v, %v", i, tag, l, e)
			}
		}
	}
}

// 19.2: another root, another size, another tag.
func TestVerifyOfOthers(t *testing.T) {
	tags := some()
	for n := 1; n <= len(tags); n++ {
		log := logOf(tags[:n]...)
		root := rootOf(log)
		for _, tag := range asks() {
			x := answerOf(tags[:n], tag)
			for _, other := range []string{"", root[:31], root + "\x00", sum(root), rootOf(nil), rootOf(log[:n-1]), root[:31] + string([]byte{root[31] ^ 1}), log[n-1]} {
				refuses(t, "another root", other, n, tag, x)
			}
			for _, size := range []int{0, n - 1, n + 1, -n, 4096, 4097, math.MinInt, math.MaxInt} {
				refuses(t, "another size", root, size, tag, x)
			}
			for _, other := range asks() {
				_, e := query.Verify(root, n, other, x)
				if want := same(x, answerOf(tags[:n], other)); want != (e == api.OK) {
					t.Errorf("the answer about %.3q, asked for %.3q among %d: %v", tag, other, n, e)
				}
			}
		}
	}
}

// 19.2: anything of an answer is another one.
func TestVerifyOfWrong(t *testing.T) {
	tags := some()
	n := len(tags)
	log := logOf(tags...)
	root := rootOf(log)
	e := thirtyTwo('e')
	for _, tag := range asks() {
		x := answerOf(tags, tag)
		ill := func(what string, change func(x *api.Answer)) {
			t.Helper()
			ill := copied(x)
			if change(&ill); !same(ill, x) {
				refuses(t, what, root, n, tag, ill)
			}
		}
		ill("zero", func(x *api.Answer) { *x = api.Answer{} })
		for i, s := range append(slices.Clone(log), "", "x", log[n-1]+"\x00", leafText(api.Leaf{Number: n - 1, Kind: 1, Digest: d, Index: leafOf(tags).Index})) {
			ill("another last leaf", func(x *api.Answer) { x.Last.Leaf = s })
			if i < n {
				ill("another last leaf, and its way", func(x *api.Answer) { x.Last = hitOf(log, i) })
			}
		}
		ill("another way", func(x *api.Answer) { x.Last.Way[0] = e })
		ill("no way", func(x *api.Answer) { x.Last.Way = nil })
		ill("a longer way", func(x *api.Answer) { x.Last.Way = append(x.Last.Way, root) })
		for m := range n {
			ill("an index of fewer leaves", func(x *api.Answer) { x.Index = answerOf(tags[:m], tag).Index })
		}
		ill("no index", func(x *api.Answer) { x.Index = api.IndexProof{} })
		ill("another size", func(x *api.Answer) { x.Index.Size++ })
		ill("no rows", func(x *api.Answer) { x.Index.Rows = nil })
		ill("one more", func(x *api.Answer) { x.Hits = append(x.Hits, hitOf(log, 1)) })
		ill("one more ahead", func(x *api.Answer) { x.Hits = append([]api.Hit{hitOf(log, n-2)}, x.Hits...) })
		ill("no hits", func(x *api.Answer) { x.Hits = nil })
		ill("backwards", func(x *api.Answer) { slices.Reverse(x.Hits) })
		for i := range x.Hits {
			ill("one too few", func(x *api.Answer) { x.Hits = slices.Delete(x.Hits, i, i+1) })
			ill("one twice", func(x *api.Answer) { x.Hits = slices.Insert(x.Hits, i, x.Hits[i]) })
			ill("one for another", func(x *api.Answer) { x.Hits[i] = x.Hits[(i+1)%len(x.Hits)] })
			ill("another way", func(x *api.Answer) { x.Hits[i].Way[1] = e })
			ill("no way", func(x *api.Answer) { x.Hits[i].Way = nil })
			for j := range n {
				ill("another leaf", func(x *api.Answer) { x.Hits[i] = hitOf(log, j) })
				ill("another leaf's text", func(x *api.Answer) { x.Hits[i].Leaf = log[j] })
			}
		}
	}
}

// lied is a log that is not well made, by leaves that are handed in, and the answer about b that hides it or shows it.
type lied struct {
	what   string
	leaves []api.Leaf
	rows   []api.Row // of the last leaf's index
	hits   []int
}

// answer is the log, and an answer in which all leads to its root.
func (x lied) answer() ([]string, api.Answer) {
	x.leaves[len(x.leaves)-1].Index = sum(indexText(x.rows))
	var log []string
	for _, l := range x.leaves {
		log = append(log, leafText(l))
	}
	out := api.Answer{Last: hitOf(log, len(log)-1), Index: proofOf(x.rows, b)}
	for _, i := range x.hits {
		out.Hits = append(out.Hits, hitOf(log, i))
	}
	return log, out
}

// 19.2: each thing that must hold is asked, though all ways lead to the root: of a log that is not well made one thing after the other is wrong.
func TestVerifyOfLogsThatAreNot(t *testing.T) {
	one := func(number int, tags ...api.Posting) api.Leaf {
		return api.Leaf{Number: number, Kind: 1, Digest: d, Tags: tags, Index: d}
	}
	tag := func(prev int) api.Posting { return api.Posting{Tag: b, Prev: prev} }
	row := func(count, last int) []api.Row { return []api.Row{{Tag: b, Count: count, Last: last}} }
	leaves := func() []api.Leaf {
		return []api.Leaf{one(0, tag(0)), one(1), one(2, tag(1)), one(3, tag(3)), one(4)}
	}
	with := func(at int, l api.Leaf) []api.Leaf {
		all := leaves()
		all[at] = l
		return all
	}
	good := lied{"", leaves(), row(3, 3), []int{3, 2, 0}}
	log, x := good.answer()
	if l, e := query.Verify(rootOf(log), 5, b, x); e != api.OK || !slices.Equal(l, []int{0, 2, 3}) {
		t.Fatalf("a chain of three: %v, %v", l, e)
	}
	for _, x := range []lied{
		{"another number of the last leaf", with(4, one(3)), row(3, 3), []int{3, 2, 0}},
		{"another number of the last leaf, beyond", with(4, one(5)), row(3, 3), []int{3, 2, 0}},
		{"a count too great", leaves(), row(4, 3), []int{3, 2, 0}},
		{"a count too small", leaves(), row(2, 3), []int{3, 2, 0}},
		{"a count too small, and as many hits", leaves(), row(2, 3), []int{3, 2}},
		{"a count too great, and the first one twice", leaves(), row(4, 3), []int{3, 2, 0, 0}},
		{"another last one", leaves(), row(3, 2), []int{3, 2, 0}},
		{"another last one, from which they go", leaves(), row(3, 2), []int{2, 0, 3}},
		{"another last one, that has it not", leaves(), row(3, 4), []int{4, 3, 2}},
		{"a last one beyond the log", leaves(), row(3, 5), []int{3, 2, 0}},
		{"no row", leaves(), nil, []int{3, 2, 0}},
		{"no row of it", leaves(), []api.Row{{Tag: c, Count: 3, Last: 3}}, []int{3, 2, 0}},
		{"no hits", leaves(), row(3, 3), nil},
		{"a hit has another number", with(2, one(1, tag(1))), row(3, 3), []int{3, 2, 0}},
		{"a hit has it not", with(2, one(2)), row(3, 3), []int{3, 2, 0}},
		{"the first one has it not", with(3, one(3)), row(3, 3), []int{3, 2, 0}},
		{"the last hit has it not", with(0, one(0)), row(3, 3), []int{3, 2, 0}},
		{"a hit has another tag", with(2, one(2, api.Posting{Tag: c, Prev: 1})), row(3, 3), []int{3, 2, 0}},
		{"one is left out", with(3, one(3, tag(1))), row(3, 3), []int{3, 2, 0}},
		{"one ahead is told where there is none", with(2, one(2, tag(2))), row(3, 3), []int{3, 2, 0}},
		{"the last hit says that there are more", with(2, one(2, tag(1))), row(2, 3), []int{3, 2}},
		{"a hit says that there are no more", with(2, one(2, tag(0))), row(3, 3), []int{3, 2, 0}},
		{"the first one says that it is alone", with(3, one(3, tag(0))), row(3, 3), []int{3, 2, 0}},
		{"others than it says", with(3, one(3, tag(1))), row(3, 3), []int{3, 0, 2}},
		{"a leaf that may not be", with(2, api.Leaf{Number: 2, Kind: 3, Digest: d, Tags: []api.Posting{tag(1)}, Index: d}), row(3, 3), []int{3, 2, 0}},
		{"a last leaf that may not be", with(4, api.Leaf{Number: 4, Kind: 2, Digest: d, Tags: []api.Posting{tag(4)}, Index: d}), row(3, 3), []int{3, 2, 0}},
	} {
		log, ill := x.answer()
		refuses(t, x.what, rootOf(log), 5, b, ill)
	}
	log, x = lied{"", leaves(), nil, nil}.answer()
	if l, e := query.Verify(rootOf(log), 5, b, x); e != api.OK || len(l) != 0 {
		t.Errorf("an index that has no row of it, and no hits: %v, %v", l, e)
	}
}

// mixed is an answer of which some was put together anew from others.
func mixed(r *rand.Rand, answers []api.Answer) api.Answer {
	pick := func() api.Answer { return copied(answers[r.Intn(len(answers))]) }
	x := pick()
	for range 1 + r.Intn(3) {
		y := pick()
		switch r.Intn(7) {
		case 0:
			x.Last = y.Last
		case 1:
			x.Index = y.Index
		case 2:
			x.Hits = y.Hits
		case 3:
			x.Hits = x.Hits[r.Intn(len(x.Hits)+1):]
		case 4:
			x.Hits = append(x.Hits[:r.Intn(len(x.Hits)+1)], y.Hits...)
		case 5:
			if len(x.Hits) > 0 && len(y.Hits) > 0 {
				x.Hits[r.Intn(len(x.Hits))] = y.Hits[r.Intn(len(y.Hits))]
			}
		case 6:
			x.Index.Rows = append(x.Index.Rows, y.Index.Rows...)
		}
	}
	return x
}

// 19.4: whatever answer is verified with the root of a well made log tells just the leaves that have the tag, as long as nobody has two texts of one digest.
func TestLies(t *testing.T) {
	r := rand.New(rand.NewSource(1))
	tags := some()[:11]
	other := slices.Clone(tags)
	other[3], other[7] = []string{d}, []string{a, b}
	verified := 0
	for _, n := range []int{1, 2, 4, 6, 8, 11} {
		log := logOf(tags[:n]...)
		root := rootOf(log)
		x, _ := query.Build(log)
		texts := append(tree.Texts(log), x.Texts()...)
		var answers []api.Answer
		for _, tag := range asks()[:8] {
			answers = append(answers, answerOf(tags[:n], tag), answerOf(tags[:n-1], tag), answerOf(tags[:min(n+1, 11)], tag), answerOf(other[:n], tag))
		}
		for i := range 3000 {
			y := mixed(r, answers)
			for _, tag := range asks()[:8] {
				l, e := query.Verify(root, n, tag, y)
				switch {
				case e == api.ErrProof && len(l) == 0:
				case e != api.OK || !slices.Equal(l, has(tags[:n], tag)):
					t.Fatalf("of %.3q among %d a lie is told: %v, %v", tag, n, l, e)
				default:
					verified++
				}
			}
			if i%10 > 0 {
				continue
			}
			if s, u, is := tree.Twin(append(query.Texts(n, y), texts...)); is {
				t.Fatalf("a twin: %q, %q", s, u)
			}
		}
	}
	if verified < 1000 {
		t.Errorf("only %d were verified", verified)
	}
}
