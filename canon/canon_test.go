package canon_test

import (
	"math"
	"math/rand"
	"strings"
	"testing"

	"lockbox/api"
	"lockbox/canon"
)

// nested is so many lists, one in the other.
func nested(n int) api.Item {
	x := canon.List()
	for range n - 1 {
		x = canon.List(x)
	}
	return x
}

func texts(n int) []api.Item {
	l := make([]api.Item, n)
	for i := range l {
		l[i] = canon.Text("")
	}
	return l
}

func long(n int) string { return strings.Repeat("x", n) }

// random is an item that may be, at most deep lists in one another.
func random(r *rand.Rand, deep int) api.Item {
	switch k := r.Intn(3); {
	case k == 0:
		return canon.Num(r.Intn(api.MaxNum) >> r.Intn(57))
	case k == 1 || deep == 0:
		return canon.Text(long(r.Intn(5) * r.Intn(70)))
	}
	var l []api.Item
	for range r.Intn(5) {
		l = append(l, random(r, deep-1))
	}
	return canon.List(l...)
}

var form = []struct {
	x api.Item
	s string
}{
	{canon.Num(0), "\x00"},
	{canon.Num(1), "\x01\x01"},
	{canon.Num(255), "\x01\xff"},
	{canon.Num(256), "\x02\x01\x00"},
	{canon.Num(258), "\x02\x01\x02"},
	{canon.Num(65535), "\x02\xff\xff"},
	{canon.Num(65536), "\x03\x01\x00\x00"},
	{canon.Num(1 << 48), "\x07\x01\x00\x00\x00\x00\x00\x00"},
	{canon.Num(api.MaxNum), "\x07\xff\xff\xff\xff\xff\xff\xff"},
	{canon.Text(""), "\x08\x00"},
	{canon.Text("ab"), "\x08\x01\x02ab"},
	{canon.Text("\x00\xff"), "\x08\x01\x02\x00\xff"},
	{canon.Text(long(255)), "\x08\x01\xff" + long(255)},
	{canon.Text(long(256)), "\x08\x02\x01\x00" + long(256)},
	{canon.Text(long(65532)), "\x08\x02\xff\xfc" + long(65532)},
	{canon.List(), "\x09\x00"},
	{canon.List(canon.Num(0), canon.Text("a")), "\x09\x01\x02\x00\x08\x01\x01a"},
	{canon.List(canon.Num(7), canon.List(canon.Text("x"))), "\x09\x01\x02\x01\x07\x09\x01\x01\x08\x01\x01x"},
	{canon.List(texts(1024)...), "\x09\x02\x04\x00" + strings.Repeat("\x08\x00", 1024)},
	{canon.List(canon.Text(long(65528)), canon.Num(0)), "\x09\x01\x02\x08\x02\xff\xf8" + long(65528) + "\x00"},
	{nested(6), strings.Repeat("\x09\x01\x01", 5) + "\x09\x00"},
}

// 2.1, 2.2, 2.4: what is written, and that it is read as it was.
func TestForm(t *testing.T) {
	for i, c := range form {
		if !canon.Check(c.x) {
			t.Errorf("%d may not be", i)
		}
		if s, e := canon.Encode(c.x); e != api.OK || s != c.s {
			t.Errorf("Encode %d: %.40x, %v", i, s, e)
		}
		if x, e := canon.Decode(c.s); e != api.OK || !canon.Same(x, c.x) {
			t.Errorf("Decode %d: %v", i, e)
		}
		for _, behind := range []string{"\x00", "\x08", "\xff\xff", long(70000)} {
			if x, rest, e := canon.Front(c.s + behind); e != api.OK || !canon.Same(x, c.x) || rest != behind {
				t.Errorf("Front %d: %v", i, e)
			}
			if x, e := canon.Decode(c.s + behind); e != api.ErrForm || !canon.Same(x, api.Item{}) {
				t.Errorf("Decode %d and more behind it: %v", i, e)
			}
		}
	}
}

// 2.1: the items that Num, Text and List make.
func TestMakers(t *testing.T) {
	for _, n := range []int{math.MinInt, -1, 0, 7, api.MaxNum, math.MaxInt} {
		if x := canon.Num(n); x.Kind != api.ItemNum || x.N != n || x.S != "" || len(x.L) != 0 {
			t.Errorf("Num(%d): %v", n, x)
		}
	}
	for _, s := range []string{"", "a", long(api.MaxText + 1)} {
		if x := canon.Text(s); x.Kind != api.ItemText || x.S != s || x.N != 0 || len(x.L) != 0 {
			t.Errorf("Text of %d bytes", len(s))
		}
	}
	for _, l := range [][]api.Item{nil, {}, {canon.Num(1)}, texts(1025), {{Kind: 9, N: 1, S: "s", L: texts(2)}}} {
		x := canon.List(l...)
		if x.Kind != api.ItemList || x.S != "" || x.N != 0 || len(x.L) != len(l) {
			t.Fatalf("List of %d items", len(l))
		}
		for i, y := range l {
			if !canon.Same(x.L[i], y) {
				t.Errorf("List of %d items: %d is another one", len(l), i)
			}
		}
	}
}

// R3: a list shares no memory with what it was made of.
func TestListSharesNothing(t *testing.T) {
	deep := []api.Item{canon.Num(1), canon.Num(2)}
	l := []api.Item{{Kind: api.ItemList, L: deep}, {Kind: api.ItemNum, L: deep}}
	was := canon.List(canon.List(deep...), api.Item{Kind: api.ItemNum, L: []api.Item{canon.Num(1), canon.Num(2)}})
	x, y := canon.List(l...), canon.List(l...)
	if !canon.Same(x, was) || &deep[0] != &l[0].L[0] {
		t.Error("List changed what it was given, or made another thing of it")
	}
	deep[0], l[1] = canon.Num(9), canon.Text("z")
	if !canon.Same(x, was) {
		t.Error("a list changes with what it was made of")
	}
	x.L[0].L[1] = canon.Num(8)
	if !canon.Same(y, was) || deep[1].N != 2 {
		t.Error("a list changes with another one")
	}
}

// 2.1: items that may not be are told, and not written.
func TestItemsThatMayNotBe(t *testing.T) {
	loop := make([]api.Item, 2)
	loop[1] = api.Item{Kind: api.ItemList, L: loop}
	some := []api.Item{canon.Num(1)}
	for i, x := range []api.Item{
		{}, {Kind: 4}, {Kind: -1}, {Kind: math.MaxInt},
		canon.Num(-1), canon.Num(api.MaxNum + 1), canon.Num(math.MinInt), canon.Num(math.MaxInt),
		{Kind: api.ItemNum, S: "x"}, {Kind: api.ItemNum, L: some},
		{Kind: api.ItemText, N: 1}, {Kind: api.ItemText, N: -1}, {Kind: api.ItemText, L: some}, canon.Text(long(api.MaxText + 1)),
		{Kind: api.ItemList, N: 1}, {Kind: api.ItemList, S: "x"}, canon.List(texts(1025)...), loop[1],
		nested(7), nested(8), canon.List(canon.Num(1), canon.Num(-1)), canon.List(canon.List(canon.Text("a")), nested(6)),
		canon.List(canon.Text(long(api.MaxText)), canon.Text(long(api.MaxText)), api.Item{}),
	} {
		if canon.Check(x) {
			t.Errorf("Check %d: it may be", i)
		}
		if s, e := canon.Encode(x); e != api.ErrArg || s != "" {
			t.Errorf("Encode %d: %d bytes, %v", i, len(s), e)
		}
	}
	if !canon.Check(api.Item{Kind: api.ItemNum, L: []api.Item{}}) || !canon.Check(api.Item{Kind: api.ItemText, L: []api.Item{}}) {
		t.Error("an empty list is not taken for none")
	}
}

// 2.1: items that may be, but of too many bytes.
func TestItemsTooLong(t *testing.T) {
	wide := canon.List(texts(1024)...)
	for i, x := range []api.Item{
		canon.Text(long(65533)), canon.Text(long(api.MaxText)),
		canon.List(canon.Text(long(65528)), canon.Num(1)), canon.List(canon.Text(long(65529)), canon.Num(0)),
		canon.List(wide, wide, wide, wide, wide, wide, wide, wide, wide, wide, wide, wide, wide, wide, wide, wide, wide, wide, wide, wide, wide, wide, wide, wide, wide, wide, wide, wide, wide, wide, wide, wide),
		canon.List(canon.Text(long(api.MaxText)), wide),
	} {
		if !canon.Check(x) {
			t.Errorf("Check %d: it may not be", i)
		}
		if s, e := canon.Encode(x); e != api.ErrLong || s != "" {
			t.Errorf("Encode %d: %d bytes, %v", i, len(s), e)
		}
	}
}

// 2.1: Same looks at all of both.
func TestSame(t *testing.T) {
	all := []api.Item{
		{}, {Kind: 4}, canon.Num(0), canon.Num(1), canon.Num(-1), canon.Text(""), canon.Text("a"), canon.Text("b"),
		canon.List(), canon.List(canon.List()), canon.List(canon.Num(0)), canon.List(canon.Num(1)), canon.List(canon.Num(0), canon.Num(0)),
		canon.List(canon.Num(0), canon.Num(1)), canon.List(canon.Num(1), canon.Num(0)), nested(6), nested(7), nested(30), nested(31),
		{Kind: api.ItemNum, S: "s"}, {Kind: api.ItemText, N: 1}, {Kind: api.ItemNum, L: []api.Item{{}}}, {Kind: api.ItemList, S: "s"}, {Kind: api.ItemList, N: 1},
	}
	for i, a := range all {
		for j, b := range all {
			if canon.Same(a, b) != (i == j) {
				t.Errorf("Same of %d and %d", i, j)
			}
		}
	}
	if !canon.Same(api.Item{Kind: api.ItemList, L: []api.Item{}}, api.Item{Kind: api.ItemList}) {
		t.Error("a nil list and an empty one are not the same")
	}
}

// Same, Check and List end, however deep lists stand in one another.
func TestVeryDeep(t *testing.T) {
	deep := func() api.Item {
		x := api.Item{Kind: api.ItemList}
		for range 1 << 16 {
			x = api.Item{Kind: api.ItemList, L: []api.Item{x}}
		}
		return x
	}
	a, b := deep(), deep()
	if !canon.Same(a, b) || canon.Same(a, b.L[0]) || canon.Check(a) || !canon.Same(canon.List(a), canon.List(b)) {
		t.Error("very deep lists")
	}
}

// 2.3: every letter against every kind; the count of letters; letters that are none.
func TestShape(t *testing.T) {
	d := canon.Text(long(32))
	l := canon.List(canon.Num(1), canon.Text("x"), canon.List(d), d)
	for _, c := range []struct {
		x     api.Item
		shape string
		want  bool
	}{
		{l, "ntld", true}, {l, "ntlt", true},
		{l, "ndld", false}, {l, "ntl", false}, {l, "ntldn", false}, {l, "", false}, {l, "nttd", false}, {l, "ntnd", false}, {l, "ttld", false}, {l, "nnld", false}, {l, "ntll", false}, {l, "ntln", false}, {l, "ltld", false},
		{canon.List(), "", true}, {canon.List(), "n", false},
		{canon.List(canon.Text(long(31))), "d", false}, {canon.List(canon.Text(long(33))), "d", false}, {canon.List(canon.Text("")), "d", false},
		{canon.List(api.Item{Kind: api.ItemNum, S: long(32)}), "d", false}, {canon.List(api.Item{Kind: api.ItemList, S: long(32)}), "d", false},
		{canon.List(canon.Num(1)), "x", false}, {canon.List(canon.Num(1)), "N", false}, {canon.List(d), "\x00", false}, {canon.List(api.Item{}), "n", false}, {canon.List(api.Item{}), "\x00", false}, {canon.List(api.Item{Kind: 4}), "l", false},
		{canon.Num(1), "", false}, {canon.Num(1), "n", false}, {d, "d", false}, {d, "", false}, {api.Item{}, "", false}, {api.Item{Kind: api.ItemText, L: []api.Item{canon.Num(1)}}, "n", false},
		{canon.List(canon.Num(1), canon.Num(2)), "é", false},
	} {
		if canon.Shape(c.x, c.shape) != c.want {
			t.Errorf("Shape of %.60v, %q: not %v", c.x, c.shape, c.want)
		}
	}
}

// 2.4: what is written is read as it was; cut off anywhere it says that it ends.
func TestRoundTrip(t *testing.T) {
	r := rand.New(rand.NewSource(1))
	for range 2000 {
		x := random(r, 6)
		s, e := canon.Encode(x)
		if e != api.OK {
			t.Fatalf("Encode: %v", e)
		}
		if y, rest, e := canon.Front(s + "\x09\x01"); e != api.OK || !canon.Same(x, y) || rest != "\x09\x01" {
			t.Fatalf("Front of %x: %v", s, e)
		}
		for i := range len(s) {
			if y, rest, e := canon.Front(s[:i]); e != api.ErrShort || rest != "" || !canon.Same(y, api.Item{}) {
				t.Fatalf("Front of %x cut at %d: %v", s, i, e)
			}
		}
	}
}

// 2.4, P7: of any bytes, what is read, written again, are the bytes that stood there; and what is refused stays refused, whatever stands behind it.
func TestAnyBytes(t *testing.T) {
	r := rand.New(rand.NewSource(2))
	for range 200000 {
		b := make([]byte, r.Intn(14))
		for i := range b {
			b[i] = byte(r.Intn(11))
		}
		s := string(b)
		x, rest, e := canon.Front(s)
		switch e {
		case api.OK:
			if again, e := canon.Encode(x); e != api.OK || again+rest != s {
				t.Fatalf("%x is read, and written as %x", s, again)
			}
		case api.ErrForm:
			if _, _, e := canon.Front(s + "\x01"); e != api.ErrForm {
				t.Fatalf("%x is refused, but with more behind it: %v", s, e)
			}
			fallthrough
		case api.ErrShort:
			if rest != "" || !canon.Same(x, api.Item{}) {
				t.Fatalf("%x: more than the error is answered", s)
			}
		default:
			t.Fatalf("%x: %v", s, e)
		}
	}
}
