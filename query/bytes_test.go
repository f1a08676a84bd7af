package query_test

import (
	"math"
	"math/rand"
	"slices"
	"strings"
	"testing"

	"lockbox/api"
	"lockbox/query"
)

// anyAnswers are answers of all kinds, most of them such as nobody can verify: they can be written.
func anyAnswers() []api.Answer {
	long := strings.Repeat("l", 60000)
	l := []api.Answer{
		{},
		{Last: api.Hit{Leaf: "x"}},
		{Last: api.Hit{Way: []string{""}}},
		{Last: api.Hit{Leaf: "\x09\x00", Way: []string{"a", "", "\x00", long}}},
		{Index: api.IndexProof{Size: api.MaxNum}},
		{Index: api.IndexProof{Rows: make([]api.RowProof, 1)}},
		{Index: api.IndexProof{Size: 300, Rows: make([]api.RowProof, 1024)}},
		{Index: api.IndexProof{Size: 7, Rows: []api.RowProof{{At: api.MaxNum, Row: api.Row{Tag: long, Count: api.MaxNum, Last: 255}, Way: []string{"", "w"}}, {At: 256}, {Row: api.Row{Tag: "t", Last: api.MaxNum}}}}},
		{Hits: make([]api.Hit, 1)},
		{Hits: make([]api.Hit, 1024)},
		{Hits: []api.Hit{{Leaf: long}, {Way: []string{"w"}}, {}, {Leaf: "l", Way: make([]string, 1024)}}},
	}
	tags := some()
	for n := range len(tags) {
		for _, tag := range asks() {
			l = append(l, answerOf(tags[:n], tag))
		}
	}
	return l
}

// 19.3: an answer's bytes, and the answer that they are of.
func TestTextAndRead(t *testing.T) {
	seen := map[string]int{}
	all := anyAnswers()
	for i, x := range all {
		s, e := query.Text(x)
		if e != api.OK || s != bytesOf(x) {
			t.Fatalf("%d: Text: %d bytes, %v", i, len(s), e)
		}
		y, e := query.Read(s)
		if e != api.OK || !same(x, y) {
			t.Fatalf("%d: Read: %v", i, e)
		}
		if j, there := seen[s]; there && !same(all[j], x) {
			t.Errorf("%d has the bytes of %d", i, j)
		}
		seen[s] = i
	}
	if s, _ := query.Text(api.Answer{}); s != "\x09\x01\x03\x09\x01\x02\x08\x00\x09\x00\x09\x01\x02\x00\x09\x00\x09\x00" {
		t.Errorf("the zero answer: %x", s)
	}
}

// 19.3: numbers below 0 or too great, texts and lists too long, ahead of bytes that are too many.
func TestTextOfWrong(t *testing.T) {
	long := strings.Repeat("l", api.MaxText+1)
	row := func(change func(r *api.RowProof)) api.Answer {
		r := api.RowProof{At: 1, Row: api.Row{Tag: a, Count: 1, Last: 1}, Way: []string{b}}
		change(&r)
		return api.Answer{Index: api.IndexProof{Size: 2, Rows: []api.RowProof{{}, r}}}
	}
	many := make([]string, api.MaxItems+1)
	ill := []api.Answer{
		{Last: api.Hit{Leaf: long}}, {Last: api.Hit{Way: []string{"", long}}}, {Last: api.Hit{Way: many}},
		{Index: api.IndexProof{Rows: make([]api.RowProof, api.MaxItems+1)}},
		{Hits: make([]api.Hit, api.MaxItems+1)}, {Hits: []api.Hit{{}, {Leaf: long}}}, {Hits: []api.Hit{{Way: []string{long}}}}, {Hits: []api.Hit{{Way: many}}},
		row(func(r *api.RowProof) { r.Row.Tag = long }), row(func(r *api.RowProof) { r.Way = []string{long} }), row(func(r *api.RowProof) { r.Way = many }),
	}
	for _, n := range []int{-1, math.MinInt, api.MaxNum + 1, math.MaxInt} {
		ill = append(ill, api.Answer{Index: api.IndexProof{Size: n}}, row(func(r *api.RowProof) { r.At = n }), row(func(r *api.RowProof) { r.Row.Count = n }), row(func(r *api.RowProof) { r.Row.Last = n }))
	}
	for i, x := range ill {
		if s, e := query.Text(x); e != api.ErrArg || s != "" {
			t.Errorf("%d: Text: %d bytes, %v", i, len(s), e)
		}
		x.Hits = append(x.Hits, api.Hit{Leaf: long[1:]}, api.Hit{Leaf: long[1:]})
		if s, e := query.Text(x); e != api.ErrArg || s != "" {
			t.Errorf("%d: Text, too long: %d bytes, %v", i, len(s), e)
		}
	}
}

// 19.3: as many bytes as there may be, and one more.
func TestTextOfLong(t *testing.T) {
	most := api.MaxText - len(bytesOf(api.Answer{Last: api.Hit{Leaf: strings.Repeat("l", 60000)}})) + 60000
	for _, x := range []api.Answer{{Last: api.Hit{Leaf: strings.Repeat("l", most)}}, {Last: api.Hit{Leaf: strings.Repeat("\x00", most)}}} {
		s, e := query.Text(x)
		if e != api.OK || len(s) != api.MaxText {
			t.Fatalf("Text of the longest one: %d bytes, %v", len(s), e)
		}
		if y, e := query.Read(s); e != api.OK || !same(x, y) {
			t.Errorf("Read of the longest one: %v", e)
		}
		x.Last.Leaf += "l"
		if s, e := query.Text(x); e != api.ErrLong || s != "" {
			t.Errorf("Text of one byte more: %d bytes, %v", len(s), e)
		}
		unread(t, bytesOf(x))
	}
	for _, x := range []api.Answer{{Last: api.Hit{Leaf: strings.Repeat("l", api.MaxText)}}, {Hits: slices.Repeat([]api.Hit{{Leaf: strings.Repeat("l", 1000)}}, 100)}, {Last: api.Hit{Way: slices.Repeat([]string{strings.Repeat("w", 64)}, 1024)}}} {
		if s, e := query.Text(x); e != api.ErrLong || s != "" {
			t.Errorf("Text of a long one: %d bytes, %v", len(s), e)
		}
	}
}

// unread asks whether bytes are those of no answer.
func unread(t *testing.T, s string) {
	t.Helper()
	if x, e := query.Read(s); e != api.ErrForm || !same(x, api.Answer{}) {
		t.Errorf("Read of %.40x: %v, %v", s, x, e)
	}
}

// 19.3: bytes of items that are no answers: each thing is of another kind, is missing, or is there twice.
func TestReadOfWrong(t *testing.T) {
	hit := list(text("l"), list(text("w")))
	row := list(num(1), text("t"), num(2), num(3), list(text("w")))
	index := list(num(1), list(row))
	hits := list(hit)
	if _, e := query.Read(list(hit, index, hits)); e != api.OK {
		t.Fatalf("Read: %v", e)
	}
	others := []string{num(0), num(1), text(""), text("l"), list(), list(num(1)), list(list(text("w"))), list(text("l"), list(num(1))), hit + hit}
	for _, s := range append(others, hit, index, hits, row, "", "x", "\xff") {
		unread(t, s)
		unread(t, list(s))
		unread(t, list(hit, index, hits)+s+"\x00")
		unread(t, list(hit, index, hits, s))
		unread(t, list(hit, index)+s[:0])
	}
	for _, s := range append(others, row, index, list(text("l")), list(text("l"), text("w")), list(list(), text("l")), list(text("l"), list(), list()), list(num(1), list()), list(text("l"), list(text("w"), list()))) {
		unread(t, list(s, index, hits))
		unread(t, list(hit, index, list(s)))
		unread(t, list(hit, index, list(hit, s, hit)))
	}
	for _, s := range append(others[:8], hit, hits, row, list(num(1), num(1)), list(text("1"), list()), list(num(1), list(), list()), list(num(1), text("")), list(list(), num(1))) {
		unread(t, list(hit, s, hits))
	}
	for _, s := range append(others, hit, index, list(num(1), text("t"), num(2), num(3)), list(num(1), text("t"), num(2), num(3), text("w")), list(text("1"), text("t"), num(2), num(3), list()), list(num(1), num(4), num(2), num(3), list()), list(num(1), text("t"), text("2"), num(3), list()), list(num(1), text("t"), num(2), list(), list()), list(num(1), text("t"), num(2), num(3), list(), list()), list(num(1), text("t"), num(2), num(3), list(num(1))), list(num(1), text("t"), num(2), num(3), list(text("w"), list()))) {
		unread(t, list(hit, list(num(1), list(s)), hits))
		unread(t, list(hit, list(num(1), list(row, s, row)), hits))
	}
	for _, s := range append(others[:4], others[5], list(index), list(row), list(hit, text("l"))) {
		unread(t, list(hit, index, s))
	}
}

// P7: what is read, written again, are the bytes that stood there; bytes that were cut off are no answer's.
func TestReadInOneWay(t *testing.T) {
	r := rand.New(rand.NewSource(1))
	tags := some()[:6]
	for _, x := range []api.Answer{{}, answerOf(tags, b), answerOf(tags, a), answerOf(tags[:1], a), anyAnswers()[2]} {
		s := bytesOf(x)
		for i := range s {
			unread(t, s[:i])
			for _, with := range []byte{s[i] ^ 1, s[i] + 1, s[i] - 1, byte(r.Intn(256)), 0, 8, 9} {
				ill := s[:i] + string([]byte{with}) + s[i+1:]
				y, e := query.Read(ill)
				if e == api.ErrForm && same(y, api.Answer{}) {
					continue
				}
				if again, f := query.Text(y); e != api.OK || f != api.OK || again != ill {
					t.Fatalf("Read of a text turned at %d: %v, and %v", i, e, f)
				}
			}
		}
		unread(t, s+"\x00")
		unread(t, s+s)
	}
	for range 20000 {
		s := make([]byte, r.Intn(30))
		for i := range s {
			s[i] = "\x00\x01\x02\x03\x08\x09ab"[r.Intn(8)]
		}
		y, e := query.Read(string(s))
		if again, f := query.Text(y); e == api.OK && (f != api.OK || again != string(s)) {
			t.Fatalf("Read of %x: %v", s, f)
		}
	}
}
