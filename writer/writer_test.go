package writer_test

import (
	"fmt"
	"math"
	"slices"
	"strings"
	"testing"

	"lockbox/api"
	"lockbox/digest"
	"lockbox/disk"
	"lockbox/head"
	"lockbox/leaf"
	"lockbox/ledger"
	"lockbox/tree"
	"lockbox/words"
	"lockbox/writer"
)

// 24.2: a writer needs keys that are right, and a ledger.
func TestNew(t *testing.T) {
	k, _ := deal(t, 2, 3)
	g, _ := ledger.Open(disk.New(3, 1024))
	if writer.New(k, nil) != nil || writer.New(api.Keys{}, nil) != nil || writer.New(k, g) == nil {
		t.Error("New")
	}
	for i, wrong := range wrongKeys(k) {
		if writer.New(wrong, g) != nil {
			t.Errorf("New with keys %d", i)
		}
	}
	for n := 1; n <= 5; n++ {
		if k, _ := deal(t, n, n); writer.New(k, g) == nil {
			t.Errorf("New with %d agents", n)
		}
	}
}

// 24.2: entries and their words; those of a ledger are numbered, whoever wrote them.
func TestWrite(t *testing.T) {
	w, g, _ := book(t, 20)
	k, dealt := deal(t, 2, 3)
	twelve := []string{"a", "b", "c", "d", "e", "f", "g", "h", "i", "j", "k", "l"}
	for i, c := range []struct {
		plain string
		more  []string
		words []string
	}{
		{"", nil, nil}, {"Bob read the payroll", nil, []string{"bob", "payroll", "read", "the"}}, {"Bob read", []string{"case7", "BOB", "Case7", "read", "x"}, []string{"bob", "case7", "read", "x"}},
		{"!", []string{"a", "A", "a", "b"}, []string{"a", "b"}}, {"", twelve, twelve}, {"A b C", slices.Concat(twelve, twelve, []string{"L"}), twelve}, {strings.Join(twelve, " "), nil, twelve}, {strings.Join(twelve, "-") + " m n o", []string{"A"}, twelve},
		{strings.Repeat("x ", 100), []string{"x"}, []string{"x"}}, {strings.Repeat("x", 25), []string{strings.Repeat("y", 24)}, []string{strings.Repeat("y", 24)}},
	} {
		random := draw(c.plain, 64)
		if n, e := w.Write(c.plain, c.more, random); n != i || e != api.OK {
			t.Fatalf("Write %d: %d, %v", i, n, e)
		}
		blob, _ := g.Blob(i)
		l, _ := leaf.Read(g.Log()[i])
		if blob != blobOf(k, i, c.plain, random) || l.Number != i || l.Kind != api.LeafEntry || l.Digest != digest.Sum(blob) || w.Len() != i+1 || g.Len() != i+1 {
			t.Errorf("entry %d: %v", i, l)
		}
		if tags := tagsOf(t, g, i); !slices.Equal(tags, tagged(k, c.words...)) {
			t.Errorf("entry %d has %d tags: %x", i, len(tags), tags)
		}
		opened(t, dealt, i, blob, c.plain, random[:32])
	}
	q := api.Request{ID: 3, Who: "bob", Entry: 1, Reason: "case 7", Expires: 9}
	if n, e := w.Ask(q); n != 10 || e != api.OK {
		t.Fatalf("Ask: %d, %v", n, e)
	}
	other := writer.New(k, g)
	if n, e := other.Write("x", nil, draw("", 64)); n != 11 || e != api.OK || other.Len() != 12 || w.Len() != 12 {
		t.Errorf("Write of another writer: %d, %v", n, e)
	}
}

// 24.2: a request's leaf has its bytes as blob, and no tags.
func TestAsk(t *testing.T) {
	w, g, _ := book(t, 20)
	w.Write("bob", nil, draw("", 64))
	for i, q := range []api.Request{{ID: 1, Who: "b"}, {ID: 1 << 20, Who: strings.Repeat("z", 24), Entry: 4095, Reason: strings.Repeat("\xff", 120), Expires: 1 << 40}, {ID: 1, Who: "b"}, {ID: 7, Who: "b.o-b", Entry: 9, Reason: "the payroll", Expires: 5}} {
		if n, e := w.Ask(q); n != i+1 || e != api.OK || w.Len() != i+2 {
			t.Fatalf("Ask: %d, %v", n, e)
		}
		blob, _ := g.Blob(i + 1)
		if want := list(num(q.ID), text(q.Who), num(q.Entry), text(q.Reason), num(q.Expires)); blob != want {
			t.Errorf("the blob: %x, not %x", blob, want)
		}
		l, e := leaf.Read(g.Log()[i+1])
		if e != api.OK || l.Number != i+1 || l.Kind != api.LeafRequest || len(l.Tags) > 0 || l.Digest != digest.Sum(blob) {
			t.Errorf("the leaf: %v", l)
		}
	}
}

// 24.2: Write's and Ask's errors come in order, and change nothing.
func TestWriteErrors(t *testing.T) {
	w, g, d := book(t, 20)
	random := draw("", 64)
	w.Write("first", nil, random)
	was := told(g, d)
	thirteen := strings.Split("a b c d e f g h i j k l m", " ")
	longWord, longText := strings.Repeat("w", 25), strings.Repeat("x ", 101)
	var many []string
	for i := range 300000 {
		many = append(many, fmt.Sprint("w", i))
	}
	for i, c := range []struct {
		plain  string
		more   []string
		random string
		want   api.Errno
	}{
		{"x", []string{"-"}, random, api.ErrForm}, {"x", []string{""}, random, api.ErrForm}, {"x", []string{"a b"}, random, api.ErrForm}, {"x", []string{longWord}, random, api.ErrLong}, {"x", []string{"x", longWord, "-"}, random, api.ErrLong}, {"x", []string{"x", "-", longWord}, random, api.ErrForm}, {"x", []string{strings.Repeat("-", 25)}, random, api.ErrForm},
		{"x", thirteen, random, api.ErrLong}, {"", thirteen, random, api.ErrLong}, {"z", thirteen[:12], random, api.ErrLong}, {strings.Join(thirteen, " "), []string{"m"}, random, api.ErrLong}, {"", append(slices.Clone(thirteen), "-"), random, api.ErrForm}, {"", append(slices.Repeat(thirteen, 3), "é"), random, api.ErrForm}, {"", many, random, api.ErrLong}, {"", append(many, "-"), random, api.ErrForm},
		{longText, []string{"-"}, random, api.ErrForm}, {longText, thirteen, "", api.ErrLong}, {longText, []string{"-"}, "", api.ErrForm}, {longText, nil, random, api.ErrLong}, {longText, nil, "", api.ErrLong},
		{"x", nil, "", api.ErrArg}, {"x", nil, random[:63], api.ErrArg}, {"x", nil, random + "x", api.ErrArg}, {"x", nil, random[:32], api.ErrArg}, {"x", thirteen, "", api.ErrLong}, {"x", []string{"-"}, "", api.ErrForm},
	} {
		if n, e := w.Write(c.plain, c.more, c.random); n != 0 || e != c.want {
			t.Errorf("Write %d: %d, %v, not %v", i, n, e, c.want)
		}
	}
	for i, q := range []api.Request{{}, {ID: 0, Who: "bob"}, {ID: 1<<20 + 1, Who: "bob"}, {ID: 1}, {ID: 1, Who: "Bob"}, {ID: 1, Who: "bob", Entry: 4096}, {ID: 1, Who: "bob", Entry: -1}, {ID: 1, Who: "bob", Reason: strings.Repeat("x", 121)}, {ID: 1, Who: "bob", Expires: 1<<40 + 1}, {ID: 1, Who: "bob", Expires: -1}} {
		if n, e := w.Ask(q); n != 0 || e != api.ErrArg {
			t.Errorf("Ask %d: %d, %v", i, n, e)
		}
	}
	if !slices.Equal(told(g, d), was) || w.Len() != 1 {
		t.Error("what is refused changes something")
	}
	if n, e := w.Write("next", nil, random); n != 1 || e != api.OK {
		t.Errorf("Write: %d, %v", n, e)
	}
}

// 24.2: the ledger's errors: Next's, Append's.
func TestLedgerErrors(t *testing.T) {
	q := api.Request{ID: 1, Who: "bob"}
	random := draw("", 64)
	w, g, d := book(t, 3)
	w.Write("first", nil, random)
	d.Fail(0, 0)
	for range 2 {
		if n, e := w.Write("x", nil, random); n != 0 || e != api.ErrDown {
			t.Errorf("Write: %d, %v", n, e)
		}
		if n, e := w.Ask(q); n != 0 || e != api.ErrDown {
			t.Errorf("Ask: %d, %v", n, e)
		}
		d.Up()
	}
	w, g, d = book(t, 3)
	for range 9 {
		w.Ask(q)
	}
	was := told(g, d)
	if n, e := w.Write("x", nil, random); n != 0 || e != api.ErrFull {
		t.Errorf("Write: %d, %v", n, e)
	}
	if n, e := w.Ask(api.Request{ID: 1, Who: "bob", Reason: strings.Repeat("x", 120)}); n != 0 || e != api.ErrFull {
		t.Errorf("Ask: %d, %v", n, e)
	}
	if !slices.Equal(told(g, d), was) {
		t.Error("what has no room changes something")
	}
}

// 24.2: a log of the greatest length: no number is next, so nothing has a blob, or a leaf.
func TestLong(t *testing.T) {
	g, _ := ledger.Open(disk.New(64, 1<<16))
	k, _ := deal(t, 1, 1)
	w := writer.New(k, g)
	for i := range 4095 {
		if n, e := w.Ask(api.Request{ID: i + 1, Who: "bob", Entry: i}); n != i || e != api.OK {
			t.Fatalf("Ask: %d, %v", n, e)
		}
	}
	if n, e := w.Write("last", []string{"x"}, draw("", 32)); n != 4095 || e != api.OK {
		t.Errorf("Write: %d, %v", n, e)
	}
	if n, e := w.Write("more", nil, draw("", 32)); n != 0 || e != api.ErrArg {
		t.Errorf("Write of one more: %d, %v", n, e)
	}
	if n, e := w.Ask(api.Request{ID: 1, Who: "bob"}); n != 0 || e != api.ErrArg {
		t.Errorf("Ask of one more: %d, %v", n, e)
	}
	if h, e := w.Head(0); e != api.OK || h.Size != 4096 || w.Len() != 4096 {
		t.Errorf("Head: %d, %v", h.Size, e)
	}
}

// 24.2, 24.3: a head is that of all entries, and these are sure.
func TestHead(t *testing.T) {
	w, g, d := book(t, 20)
	k, _ := deal(t, 2, 3)
	var digests []string
	for i, now := range []int{0, 7, 7, 1 << 40} {
		h, e := w.Head(now)
		root := tree.Root(digests)
		want, _ := head.Sign(k.Head, i, root, now)
		if e != api.OK || h != want || head.Check(k.Head, h) != api.OK || g.Sure() != i || d.Waits() != 0 {
			t.Errorf("Head %d: %v, %v", i, h, e)
		}
		c := d.Clone()
		c.Fail(0, 0)
		c.Up()
		again, _ := ledger.Open(c)
		if s, e := again.Root(h.Size); e != api.OK || s != h.Root {
			t.Errorf("what a head tells of is lost: %v", e)
		}
		w.Write("some text", nil, draw("", 64))
		digests = append(digests, tree.Leaf(g.Log()[i]))
	}
}

// 24.2: Head's errors: the ledger's is told ahead of that of the time.
func TestHeadErrors(t *testing.T) {
	w, g, d := book(t, 20)
	w.Write("some text", nil, draw("", 64))
	for _, now := range []int{-1, 1<<40 + 1, math.MinInt, math.MaxInt} {
		if h, e := w.Head(now); h != (api.Head{}) || e != api.ErrArg {
			t.Errorf("Head at %d: %v, %v", now, h, e)
		}
	}
	d.Fail(0, 0)
	for range 2 {
		for _, now := range []int{-1, 0, 1<<40 + 1} {
			if h, e := w.Head(now); h != (api.Head{}) || e != api.ErrDown {
				t.Errorf("Head at %d: %v, %v", now, h, e)
			}
		}
		d.Up()
	}
	if g.Len() != 1 {
		t.Error("Head changes the ledger")
	}
}

// 24.2: there is no writer.
func TestNil(t *testing.T) {
	var w *writer.Writer
	if n, e := w.Write("x", []string{"-"}, ""); n != 0 || e != api.ErrArg {
		t.Errorf("Write: %d, %v", n, e)
	}
	if n, e := w.Ask(api.Request{ID: 1, Who: "bob"}); n != 0 || e != api.ErrArg {
		t.Errorf("Ask: %d, %v", n, e)
	}
	if h, e := w.Head(0); h != (api.Head{}) || e != api.ErrArg || w.Len() != 0 {
		t.Errorf("Head: %v, %v", h, e)
	}
}

// R3: neither keys nor words that are handed in are kept or changed.
func TestKeysAreOwn(t *testing.T) {
	g, _ := ledger.Open(disk.New(20, 1024))
	k, _ := deal(t, 2, 3)
	given := k
	given.Wraps = slices.Clone(k.Wraps)
	w := writer.New(given, g)
	given.Wraps[0], given.Wraps[2] = "", given.Wraps[1]
	more := []string{"X", "B", "x", "A"}
	random := draw("", 64)
	if n, e := w.Write("c", more, random); n != 0 || e != api.OK {
		t.Errorf("Write: %d, %v", n, e)
	}
	if blob, _ := g.Blob(0); blob != blobOf(k, 0, "c", random) {
		t.Error("the writer's keys were changed")
	}
	if !slices.Equal(more, []string{"X", "B", "x", "A"}) {
		t.Errorf("words that were handed in are changed: %q", more)
	}
	if tags, e := words.Tags(k.Tag, []string{"a", "b", "c", "x"}); e != api.OK || !slices.Equal(tagsOf(t, g, 0), tags) {
		t.Errorf("the tags: %v", e)
	}
}

// 24.3, P3: wherever the power fails, no head tells of more than is sure.
func TestCutAnywhere(t *testing.T) {
	k, _ := deal(t, 1, 2)
	for after := 0; ; after++ {
		d := disk.New(20, 1024)
		d.Lay(api.Cut{After: after, Keep: after % 3, Torn: after % 40})
		g, e := ledger.Open(d)
		w := writer.New(k, g)
		var top api.Head
		for i := 0; e == api.OK && i < 12; i++ {
			if i%3 == 2 {
				_, e = w.Ask(api.Request{ID: i, Who: "bob"})
			} else {
				_, e = w.Write(strings.Repeat("x", 17*i), nil, draw("", 32))
			}
			if e == api.OK && i%2 == 1 {
				top, e = w.Head(i)
			}
		}
		if e == api.OK {
			if top.Size != 12 {
				t.Errorf("the last head: %v", top)
			}
			break
		}
		if e != api.ErrDown || !d.Down() {
			t.Fatalf("cut %d: %v", after, e)
		}
		d.Up()
		g, e = ledger.Open(d)
		if root, f := g.Root(top.Size); e != api.OK || f != api.OK || top.Size > 0 && root != top.Root {
			t.Fatalf("cut %d: %v, %v", after, e, f)
		}
	}
}
