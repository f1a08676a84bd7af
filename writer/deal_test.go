package writer_test

import (
	"math"
	"reflect"
	"slices"
	"strings"
	"testing"
	"unsafe"

	"lockbox/api"
	"lockbox/mac"
	"lockbox/seal"
	"lockbox/shamir"
	"lockbox/writer"
)

// 24.3: the document's example.
func TestExample(t *testing.T) {
	k, l := deal(t, 1, 1)
	random := draw("entry", 32)
	blob, _ := writer.Blob(k, 7, "hello", random)
	_, wrapped, e := writer.Parts(blob)
	if e != api.OK || len(wrapped) != 1 {
		t.Fatalf("Parts: %v", e)
	}
	s, _ := seal.Open(wrapOf(l[0]), 7, wrapped[0])
	if x, e := shamir.Read(s); e != api.OK || x.Y != random {
		t.Errorf("the share: %v, %v", x, e)
	}
}

// 24.1: the keys and the shares of all that may be dealt.
func TestDeal(t *testing.T) {
	master := draw("master", 32)
	for n := 1; n <= 5; n++ {
		for need := 1; need <= n; need++ {
			drawn := draw("deal", 32*(need-1))
			k, l, e := writer.Deal(master, need, n, drawn)
			want, _ := shamir.Split(master, need, n, drawn)
			if e != api.OK || !slices.Equal(l, want) || k.Head != mac.Key(master, "head", 0) || k.Tag != mac.Key(master, "tag", 0) || k.Need != need || len(k.Wraps) != n {
				t.Fatalf("Deal of %d of %d: %v", need, n, e)
			}
			for i, s := range l {
				if k.Wraps[i] != wrapOf(s) || writer.Wrap(s) != wrapOf(s) {
					t.Errorf("the key of agent %d of %d", i+1, n)
				}
			}
			for _, few := range choices(l, need) {
				if s, e := shamir.Combine(few); e != api.OK || s != master {
					t.Errorf("Combine: %v", e)
				}
			}
		}
	}
}

// 24.1: what may not be dealt.
func TestDealErrors(t *testing.T) {
	master := draw("master", 32)
	for i, c := range []struct {
		master  string
		need, n int
		drawn   string
		want    api.Errno
	}{
		{"", 1, 1, "", api.ErrKey}, {master[1:], 1, 1, "", api.ErrKey}, {master + "x", 1, 1, "", api.ErrKey}, {master + master, 1, 1, "", api.ErrKey}, {"m", 0, 6, "x", api.ErrKey},
		{master, 1, 0, "", api.ErrArg}, {master, 0, 0, "", api.ErrArg}, {master, 1, -1, "", api.ErrArg}, {master, 1, 6, "", api.ErrArg}, {master, 1, 255, "", api.ErrArg}, {master, 1, math.MaxInt, "", api.ErrArg}, {master, 1, math.MinInt, "", api.ErrArg},
		{master, 0, 3, "", api.ErrArg}, {master, -1, 3, "", api.ErrArg}, {master, 4, 3, draw("", 96), api.ErrArg}, {master, math.MaxInt, 3, "", api.ErrArg}, {master, math.MinInt, 3, "", api.ErrArg},
		{master, 2, 3, "", api.ErrArg}, {master, 2, 3, draw("", 31), api.ErrArg}, {master, 2, 3, draw("", 33), api.ErrArg}, {master, 2, 3, draw("", 64), api.ErrArg}, {master, 1, 3, "x", api.ErrArg}, {master, 3, 3, draw("", 32), api.ErrArg},
	} {
		k, l, e := writer.Deal(c.master, c.need, c.n, c.drawn)
		if e != c.want || !reflect.DeepEqual(k, api.Keys{}) || len(l) > 0 {
			t.Errorf("Deal %d: %v, not %v", i, e, c.want)
		}
	}
}

// 24.1: the key of an agent, at any place at which a share may be.
func TestWrap(t *testing.T) {
	for _, s := range []api.Share{{X: 1, Need: 1, Y: "y"}, {X: 255, Need: 255, Y: strings.Repeat("y", 64)}, {X: 6, Need: 2, Y: "\x00"}} {
		if key := writer.Wrap(s); key != wrapOf(s) || len(key) != 32 {
			t.Errorf("Wrap of %v: %x", s, key)
		}
	}
	for _, s := range []api.Share{{}, {X: 0, Need: 1, Y: "y"}, {X: 256, Need: 1, Y: "y"}, {X: -1, Need: 1, Y: "y"}, {X: 1, Need: 0, Y: "y"}, {X: 1, Need: 256, Y: "y"}, {X: 1, Need: 1}, {X: 1, Need: 1, Y: strings.Repeat("y", 65)}} {
		if key := writer.Wrap(s); key != "" {
			t.Errorf("Wrap of %v: %x", s, key)
		}
	}
}

// 24.1, 24.3: an entry's blob, as the words say; it has room; any so many agents as are needed get the text.
func TestBlob(t *testing.T) {
	for n := 1; n <= 5; n++ {
		for need := 1; need <= n; need++ {
			k, dealt := deal(t, need, n)
			for _, number := range []int{0, 1, 255, 256, 4095} {
				for _, plain := range []string{"", "hello", strings.Repeat("\xff", 200)} {
					random := draw(plain, 32*need)
					blob, e := writer.Blob(k, number, plain, random)
					if want := blobOf(k, number, plain, random); e != api.OK || blob != want || len(blob) > 880 {
						t.Fatalf("Blob: %x, %v, not %x", blob, e, want)
					}
					opened(t, dealt, number, blob, plain, random[:32])
				}
			}
		}
	}
}

// blobOf is an entry's blob, as the document's words say.
func blobOf(k api.Keys, number int, plain, random string) string {
	shares, _ := shamir.Split(random[:32], k.Need, len(k.Wraps), random[32:])
	var wrapped []string
	for i, s := range shares {
		x, _ := seal.Seal(k.Wraps[i], number, list(num(s.X), num(s.Need), text(s.Y)))
		wrapped = append(wrapped, text(x))
	}
	sealed, _ := seal.Seal(random[:32], number, plain)
	return list(text(sealed), list(wrapped...))
}

// opened asks whether any so many agents as are needed get the key and the text of an entry.
func opened(t *testing.T, dealt []api.Share, number int, blob, plain, key string) {
	t.Helper()
	sealed, wrapped, e := writer.Parts(blob)
	if e != api.OK || len(wrapped) != len(dealt) {
		t.Fatalf("Parts: %v", e)
	}
	var shares []api.Share
	for i, s := range dealt {
		y, e := seal.Open(writer.Wrap(s), number, wrapped[i])
		x, f := shamir.Read(y)
		if e != api.OK || f != api.OK || x.X != i+1 || x.Need != s.Need {
			t.Fatalf("share %d: %v, %v", i+1, e, f)
		}
		shares = append(shares, x)
	}
	for _, few := range choices(shares, dealt[0].Need) {
		got, e := shamir.Combine(few)
		s, f := seal.Open(got, number, sealed)
		if e != api.OK || got != key || f != api.OK || s != plain {
			t.Fatalf("Open: %q, %v, %v", s, e, f)
		}
	}
}

// wrongKeys are keys that are not right, each by one thing.
func wrongKeys(k api.Keys) []api.Keys {
	var l []api.Keys
	for _, change := range []func(*api.Keys){
		func(k *api.Keys) { k.Head = "" }, func(k *api.Keys) { k.Head = k.Head[1:] }, func(k *api.Keys) { k.Head += "x" },
		func(k *api.Keys) { k.Tag = "" }, func(k *api.Keys) { k.Tag = k.Tag[1:] }, func(k *api.Keys) { k.Tag += "x" },
		func(k *api.Keys) { k.Wraps = nil }, func(k *api.Keys) { k.Wraps = k.Wraps[:k.Need-1] }, func(k *api.Keys) { k.Wraps = slices.Repeat(k.Wraps[:1], 6) }, func(k *api.Keys) { k.Wraps = slices.Repeat(k.Wraps[:1], 256) },
		func(k *api.Keys) { k.Wraps[0] = "" }, func(k *api.Keys) { k.Wraps[0] += "x" }, func(k *api.Keys) { k.Wraps[2] = k.Wraps[2][1:] },
		func(k *api.Keys) { k.Need = 0 }, func(k *api.Keys) { k.Need = -1 }, func(k *api.Keys) { k.Need = 4 }, func(k *api.Keys) { k.Need = math.MinInt }, func(k *api.Keys) { k.Need = math.MaxInt },
		func(k *api.Keys) { *k = api.Keys{} },
	} {
		other := k
		other.Wraps = slices.Clone(k.Wraps)
		change(&other)
		l = append(l, other)
	}
	return l
}

// 24.1: Blob's errors, in order.
func TestBlobErrors(t *testing.T) {
	k, _ := deal(t, 2, 3)
	random := draw("", 64)
	long := strings.Repeat("x", 201)
	for i, wrong := range wrongKeys(k) {
		for _, x := range []struct {
			number        int
			plain, random string
		}{{0, "x", random}, {-1, long, ""}} {
			if s, e := writer.Blob(wrong, x.number, x.plain, x.random); s != "" || e != api.ErrKey {
				t.Errorf("Blob under keys %d: %v", i, e)
			}
		}
	}
	for i, c := range []struct {
		number        int
		plain, random string
		want          api.Errno
	}{
		{0, long, random, api.ErrLong}, {-1, long, random, api.ErrLong}, {0, long, "", api.ErrLong}, {0, strings.Repeat("x", 1<<20), random, api.ErrLong},
		{-1, "x", random, api.ErrArg}, {4096, "x", random, api.ErrArg}, {math.MinInt, "x", random, api.ErrArg}, {math.MaxInt, "x", random, api.ErrArg},
		{0, "x", "", api.ErrArg}, {0, "x", random[:32], api.ErrArg}, {0, "x", random[:63], api.ErrArg}, {0, "x", random + "x", api.ErrArg}, {0, "x", draw("", 96), api.ErrArg},
	} {
		if s, e := writer.Blob(k, c.number, c.plain, c.random); s != "" || e != c.want {
			t.Errorf("Blob %d: %v, not %v", i, e, c.want)
		}
	}
}

// 24.1: the parts of what has the form of a blob, whatever they are.
func TestParts(t *testing.T) {
	long := strings.Repeat("x", 60000)
	many := slices.Repeat([]string{text("a")}, 1024)
	for _, c := range []struct {
		sealed  string
		wrapped []string
	}{{"", nil}, {"x", nil}, {"\x00", []string{""}}, {"x", []string{"a", "", "\xff"}}, {long, []string{"a"}}, {"", []string{long}}} {
		var l []string
		for _, s := range c.wrapped {
			l = append(l, text(s))
		}
		sealed, wrapped, e := writer.Parts(list(text(c.sealed), list(l...)))
		if e != api.OK || sealed != c.sealed || !slices.Equal(wrapped, c.wrapped) {
			t.Errorf("Parts of %.20q: %.20q, %.20q, %v", c.sealed, sealed, wrapped, e)
		}
	}
	if _, wrapped, e := writer.Parts(list(text("x"), list(many...))); e != api.OK || len(wrapped) != 1024 {
		t.Errorf("Parts of many: %d, %v", len(wrapped), e)
	}
	good := list(text("x"), list(text("a"), text("b")))
	wrong := []string{"", "junk", "x", num(0), text("x"), list(), list(text("x")), list(list(text("a"))), list(list(text("a")), text("x")), list(text("x"), text("a")), list(text("x"), text("a"), text("b")), list(num(1), list(text("a"))), list(list(), list()), list(text("x"), num(0)), list(text("x"), list(), list()), list(text("x"), list(), text("")), list(text("x"), list(text("a"), num(0))), list(text("x"), list(num(0), text("a"))), list(text("x"), list(list())), list(text("x"), list(text("a"), list(text("b")))), good + "\x00", good + good, "\x00" + good, list(text("x"), list(append(many, text("a"))...)), list(text("x"), list(text(long), text(long)))}
	for i := range good {
		wrong = append(wrong, good[:i])
	}
	for _, s := range wrong {
		if sealed, wrapped, e := writer.Parts(s); e != api.ErrForm || sealed != "" || len(wrapped) > 0 {
			t.Errorf("Parts of %.40x: %v", s, e)
		}
	}
}

// R3: what is answered shares no memory with what was handed in.
func TestNoMemoryIsShared(t *testing.T) {
	blob := list(text("sealed"), list(text("first"), text("second")))
	sealed, wrapped, _ := writer.Parts(blob)
	_, again, _ := writer.Parts(blob)
	for _, s := range []string{sealed, wrapped[0], wrapped[1]} {
		if unsafe.StringData(s) == unsafe.StringData(blob[strings.Index(blob, s):]) {
			t.Errorf("Parts shares the memory of %q", s)
		}
	}
	if &wrapped[0] == &again[0] {
		t.Error("Parts answers one list twice")
	}
}
