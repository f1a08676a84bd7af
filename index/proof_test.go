package index_test

import (
	"math"
	"math/rand"
	"slices"
	"strings"
	"testing"

	"lockbox/api"
	"lockbox/index"
	"lockbox/tree"
)

// 18.2, 18.4: the proofs of tags that have a row, and of such as have none, and what they tell.
func TestProve(t *testing.T) {
	for n := range 20 {
		x, rows := rowed(t, n)
		for _, tag := range asks(n) {
			p := x.Prove(tag)
			if !sameProof(p, proofOf(rows, tag)) {
				t.Fatalf("Prove of %.10q among %d rows: %v", tag, n, p)
			}
			proves(t, rows, tag, p)
		}
	}
}

// 18.2: proofs among as many rows as there may be.
func TestProveOfMany(t *testing.T) {
	var l []taken
	for i := range 342 {
		tags := tagsOf(10+12*i, 12)
		if i == 341 {
			tags = tags[:4]
		}
		l = append(l, taken{i, tags})
	}
	x, rows := made(t, l...), rowsOf(l)
	root := x.Root()
	for _, at := range []int{-1, 0, 1, 2047, 2048, 4094, 4095, 4096} {
		tag := tagOf(10 + at)
		p := x.Prove(tag)
		row, is, e := index.Verify(root, tag, p)
		if e != api.OK || is != (at >= 0 && at < len(rows)) || is && row != rows[at] || len(p.Rows) != 1 || len(p.Rows[0].Way) != 12 {
			t.Errorf("the place %d: %v, %v, %v", at, row, is, e)
		}
	}
	between := tagOf(2057)[:31] + "z"
	p := x.Prove(between)
	if _, is, e := index.Verify(root, between, p); e != api.OK || is || len(p.Rows) != 2 || p.Rows[0].At != 2047 || p.Rows[1].At != 2048 {
		t.Errorf("between 2047 and 2048: %v, %v", is, e)
	}
}

// 18.2: rows that lead to the root, but not such as must be shown for the tag.
func TestVerifyOfWrongRows(t *testing.T) {
	for n := range 12 {
		_, rows := rowed(t, n)
		root := rootOf(rows)
		for _, tag := range asks(n) {
			want := proofOf(rows, tag)
			var places [][]int
			for i := range n {
				places = append(places, []int{i})
				for j := range n {
					places = append(places, []int{i, j}, []int{i, j, (i + j) % n})
				}
			}
			for _, l := range append(places, nil) {
				if p := shown(rows, l...); !sameProof(p, want) {
					refuses(t, "rows that show it not", root, tag, p)
				}
			}
		}
	}
}

// 18.2: of no rows none is shown, under their root alone; of some, some are.
func TestVerifyOfNone(t *testing.T) {
	root := rootOf(nil)
	_, rows := rowed(t, 3)
	zero := api.IndexProof{}
	for _, tag := range asks(3) {
		proves(t, nil, tag, zero)
		proves(t, nil, tag, api.IndexProof{Rows: []api.RowProof{}})
		refuses(t, "the root of others", rootOf(rows), tag, zero)
		refuses(t, "no root", "", tag, zero)
		refuses(t, "the root of nothing", sum(""), tag, zero)
		for _, size := range []int{1, 2, 3, -1, 4096, math.MinInt, math.MaxInt} {
			refuses(t, "no rows of some", root, tag, api.IndexProof{Size: size})
			refuses(t, "no rows of some", rootOf(rows), tag, api.IndexProof{Size: size})
		}
		p := proofOf(rows, tag)
		p.Size = 0
		refuses(t, "rows of none", root, tag, p)
		refuses(t, "rows of none", rootOf(rows), tag, p)
	}
}

// 18.2: rows that prove nothing, though they lead to a root; and those at the edges, which prove.
func TestVerifyOfRowsThatMayNotBe(t *testing.T) {
	good := api.Row{Tag: tagOf(4), Count: 1}
	ask := func(r api.Row, holds bool) {
		t.Helper()
		for _, rows := range [][]api.Row{{r}, {r, {Tag: tagOf(8), Count: 2, Last: 9}}, {{Tag: tagOf(2), Count: 2, Last: 9}, r}, {{Tag: tagOf(2), Count: 2, Last: 9}, r, {Tag: tagOf(8), Count: 2, Last: 9}}} {
			at := slices.Index(rows, r)
			for tag, p := range map[string]api.IndexProof{r.Tag: shown(rows, at), tagOf(3): proofOf(rows, tagOf(3)), tagOf(6): proofOf(rows, tagOf(6))} {
				if holds {
					proves(t, rows, tag, p)
				} else {
					refuses(t, "a row that may not be", rootOf(rows), tag, p)
				}
			}
		}
	}
	for _, c := range []struct {
		count, last int
		holds       bool
	}{
		{1, 0, true}, {4096, 0, true}, {4095, 4095, true}, {1, 4095, true}, {4096, 4095, true},
		{0, 0, false}, {0, 4095, false}, {4097, 0, false}, {1, 4096, false}, {1, api.MaxNum, false}, {api.MaxNum, 1, false}, {65536, 65536, false},
	} {
		ask(api.Row{Tag: good.Tag, Count: c.count, Last: c.last}, c.holds)
	}
	for _, tag := range []string{tagOf(4)[:31], tagOf(4) + "t", tagOf(4)[:8], tagOf(4)[:16]} {
		ask(api.Row{Tag: tag, Count: 1}, false)
	}
	rows := []api.Row{{Tag: "", Count: 1}}
	refuses(t, "a row without a tag", rootOf(rows), "", shown(rows, 0))
	for _, r := range []api.Row{{Tag: tagOf(4), Count: -1}, {Tag: tagOf(4), Count: 1, Last: -1}, {Tag: tagOf(4), Count: math.MinInt, Last: math.MinInt}, {Tag: tagOf(4), Count: math.MaxInt}, {Tag: tagOf(4), Count: 1, Last: math.MaxInt}} {
		for _, root := range []string{"", sum(""), rootOf(nil), rootOf([]api.Row{good})} {
			refuses(t, "numbers that have no bytes", root, r.Tag, api.IndexProof{Size: 1, Rows: []api.RowProof{{Row: r}}})
		}
	}
}

// 18.2: another root, another size, other places, other ways.
func TestVerifyOfWrong(t *testing.T) {
	for n := 1; n < 10; n++ {
		x, rows := rowed(t, n)
		root := x.Root()
		top, _ := topOf(rows)
		_, others := rowed(t, n+1)
		for _, tag := range asks(n) {
			p := x.Prove(tag)
			for _, other := range []string{"", root[:31], root + "\x00", top, sum(root), rootOf(nil), rootOf(others), root[:31] + string([]byte{root[31] ^ 1})} {
				refuses(t, "another root", other, tag, p)
			}
			for _, size := range []int{-1, 0, n - 1, n + 1, 4096, 4097, math.MinInt, math.MaxInt} {
				ill := copied(p)
				ill.Size = size
				refuses(t, "another size", root, tag, ill)
			}
			for i, r := range p.Rows {
				ill := func(change func(r *api.RowProof)) {
					t.Helper()
					ill := copied(p)
					change(&ill.Rows[i])
					refuses(t, "a row that was changed", root, tag, ill)
				}
				for _, at := range []int{-1, r.At + 1, r.At - 1, n, math.MinInt, math.MaxInt} {
					ill(func(r *api.RowProof) { r.At = at })
				}
				ill(func(r *api.RowProof) { r.Row.Count++ })
				ill(func(r *api.RowProof) { r.Row.Last++ })
				ill(func(r *api.RowProof) { r.Row.Tag = r.Row.Tag[:31] + "u" })
				ill(func(r *api.RowProof) { r.Row.Tag = "" })
				ill(func(r *api.RowProof) { r.Way = append(r.Way, top) })
				ill(func(r *api.RowProof) { r.Way = append(r.Way, "") })
				for j := range r.Way {
					ill(func(r *api.RowProof) { r.Way[j] = sum(r.Way[j]) })
					ill(func(r *api.RowProof) { r.Way[j] = r.Way[j][:31] })
					ill(func(r *api.RowProof) { r.Way = slices.Delete(r.Way, j, j+1) })
				}
			}
		}
	}
}

// 18.3: the texts of a proof, which lead from the rows to the root.
func TestProofTexts(t *testing.T) {
	for n := range 14 {
		x, rows := rowed(t, n)
		for _, tag := range asks(n) {
			p := x.Prove(tag)
			texts := index.ProofTexts(p)
			if !slices.Equal(texts, textsOf(rows, p)) || sum(texts[len(texts)-1]) != x.Root() {
				t.Fatalf("ProofTexts of %.10q among %d rows: %d", tag, n, len(texts))
			}
		}
	}
}

// 18.3: what leads nowhere has no texts, and takes none from what stands beside it; any rows that lead somewhere have theirs.
func TestProofTextsOfAny(t *testing.T) {
	_, rows := rowed(t, 5)
	p := shown(rows, 2, 0, 4, 2)
	all := textsOf(rows, p)
	if !slices.Equal(index.ProofTexts(p), all) || len(all) != 5+5+3+5 {
		t.Fatalf("ProofTexts of any rows: %d", len(index.ProofTexts(p)))
	}
	long := strings.Repeat("l", api.MaxText+1)
	for i, change := range []func(r *api.RowProof){
		func(r *api.RowProof) { r.At = -1 }, func(r *api.RowProof) { r.At = 5 }, func(r *api.RowProof) { r.At = math.MaxInt }, func(r *api.RowProof) { r.At = 4 },
		func(r *api.RowProof) { r.Way = nil }, func(r *api.RowProof) { r.Way = r.Way[1:] }, func(r *api.RowProof) { r.Way = append(r.Way, r.Way[0]) },
		func(r *api.RowProof) { r.Way[1] = "" }, func(r *api.RowProof) { r.Way[2] = long },
		func(r *api.RowProof) { r.Row.Count = -1 }, func(r *api.RowProof) { r.Row.Last = -1 }, func(r *api.RowProof) { r.Row.Count = api.MaxNum + 1 }, func(r *api.RowProof) { r.Row.Last = math.MinInt },
		func(r *api.RowProof) { r.Row.Tag = long }, func(r *api.RowProof) { r.Row.Tag = long[1:] },
	} {
		ill := copied(p)
		change(&ill.Rows[1])
		if !slices.Equal(index.ProofTexts(ill), slices.Concat(all[:5], all[10:])) {
			t.Errorf("%d: ProofTexts of a row that leads nowhere: %d", i, len(index.ProofTexts(ill)))
		}
	}
	for _, size := range []int{0, -1, 4097, math.MinInt, math.MaxInt} {
		ill := copied(p)
		ill.Size = size
		if l := index.ProofTexts(ill); len(l) != 0 {
			t.Errorf("ProofTexts of %d rows: %d", size, len(l))
		}
	}
	odd := []api.Row{{Tag: "x", Count: 0, Last: 5000}, {Tag: tagOf(1), Count: 4097, Last: 3}}
	if q := shown(odd, 0, 1); !slices.Equal(index.ProofTexts(q), textsOf(odd, q)) {
		t.Error("ProofTexts of rows that lead somewhere, and prove nothing")
	}
}

// 18.3: proofs that show no rows.
func TestProofTextsOfNoRows(t *testing.T) {
	if l := index.ProofTexts(api.IndexProof{}); !slices.Equal(l, []string{rootBytes(0, sum(""))}) || sum(l[0]) != (index.Index{}).Root() {
		t.Errorf("of Size 0: %q", l)
	}
	for _, size := range []int{1, -1, 2, 4096, math.MinInt, math.MaxInt} {
		if l := index.ProofTexts(api.IndexProof{Size: size}); len(l) != 0 {
			t.Errorf("of Size %d: %q", size, l)
		}
	}
}

// mixed is a proof of which some was put together anew from those of other tags, sizes and indexes.
func mixed(r *rand.Rand, proofs []api.IndexProof) api.IndexProof {
	pick := func() api.IndexProof { return copied(proofs[r.Intn(len(proofs))]) }
	p := pick()
	for range 1 + r.Intn(3) {
		q := pick()
		switch r.Intn(6) {
		case 0:
			p.Rows = append(p.Rows, q.Rows...)
		case 1:
			p.Rows = p.Rows[:r.Intn(len(p.Rows)+1)]
		case 2:
			p.Size = q.Size
		case 3:
			slices.Reverse(p.Rows)
		case 4:
			if len(p.Rows) > 0 && len(q.Rows) > 0 {
				p.Rows[r.Intn(len(p.Rows))] = q.Rows[0]
			}
		case 5:
			if len(p.Rows) > 0 && len(q.Rows) > 0 {
				a, b := &p.Rows[0], q.Rows[len(q.Rows)-1]
				a.At, a.Way = b.At, b.Way
			}
		}
	}
	return p
}

// 18.4: whatever proof is verified with an index's root tells the truth, as long as nobody has two texts of one digest.
func TestLies(t *testing.T) {
	r := rand.New(rand.NewSource(2))
	verified := 0
	for n := range 9 {
		x, rows := rowed(t, n)
		y, _ := rowed(t, n+1)
		z, _, _ := x.With(4000, []string{tagOf(4)})
		root := x.Root()
		var proofs []api.IndexProof
		for _, tag := range asks(n) {
			proofs = append(proofs, x.Prove(tag), y.Prove(tag), z.Prove(tag))
		}
		for range 4000 {
			p := mixed(r, proofs)
			for _, tag := range []string{tagOf(r.Intn(2*n + 3)), asks(n)[r.Intn(9)]} {
				row, is, e := index.Verify(root, tag, p)
				want, has := x.Find(tag)
				switch {
				case e == api.ErrProof && !is && row == (api.Row{}):
				case e != api.OK || is != has || row != want:
					t.Fatalf("of %.10q among %d rows a lie is told: %v, %v, %v", tag, len(rows), row, is, e)
				default:
					verified++
				}
			}
			if a, b, is := tree.Twin(append(index.ProofTexts(p), x.Texts()...)); is {
				t.Fatalf("a twin: %q, %q", a, b)
			}
		}
	}
	if verified < 1000 {
		t.Errorf("only %d were verified", verified)
	}
}
