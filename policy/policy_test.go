package policy_test

import (
	"fmt"
	"math"
	"math/rand"
	"slices"
	"strings"
	"testing"

	"lockbox/api"
	"lockbox/policy"
)

// 20.1: the document's example.
func TestExample(t *testing.T) {
	l := []api.Rule{{Who: "bob", From: 0, To: 10, Until: 100, Most: 1, Allow: true}}
	q := api.Request{ID: 3, Who: "bob", Entry: 4, Expires: 50}
	place, err := policy.Decide(l, q, 20, 0)
	if place != 0 || err != nil {
		t.Errorf("of bob: %d, %v", place, err)
	}
	q.Who = "alice"
	place, err = policy.Decide(l, q, 20, 0)
	if place != -1 {
		t.Errorf("of alice: %d", place)
	}
	isFault(t, err, api.ErrRule, 3)
	q.Who = "bob"
	place, err = policy.Decide(l, q, 20, 1)
	if place != 0 {
		t.Errorf("of bob, with one open: %d", place)
	}
	isFault(t, err, api.ErrFull, 0)
}

// 20.1: which requests may be.
func TestRequest(t *testing.T) {
	for _, q := range requests() {
		if !policy.Request(q) {
			t.Errorf("%v may not be", q)
		}
	}
	for _, q := range illRequests() {
		if policy.Request(q) {
			t.Errorf("%.200v may be", q)
		}
	}
}

// 20.1: which rules are a policy: none, too, up to 20, and an ill one at any place makes them none.
func TestCheck(t *testing.T) {
	good := rules()
	for _, r := range good {
		if !policy.Check([]api.Rule{r}) {
			t.Errorf("%v may not be", r)
		}
	}
	for _, r := range illRules() {
		if policy.Check([]api.Rule{r}) || policy.Check([]api.Rule{every, r}) || policy.Check([]api.Rule{r, every}) {
			t.Errorf("%.200v may be", r)
		}
	}
	if !policy.Check(nil) || !policy.Check([]api.Rule{}) {
		t.Error("no rules are no policy")
	}
	for n := range 24 {
		l := slices.Repeat([]api.Rule{every}, n)
		if policy.Check(l) != (n <= 20) || policy.Check(good[:n]) != (n <= 20) {
			t.Errorf("%d rules: %v", n, policy.Check(l))
		}
		for i := range l {
			l[i].Most = 51
			if policy.Check(l) {
				t.Errorf("of %d rules that with the place %d is ill, and they are a policy", n, i)
			}
			l[i].Most = 50
		}
	}
	if policy.Check(make([]api.Rule, 1<<16)) {
		t.Error("65536 rules are a policy")
	}
}

// 20.1: each thing that a rule asks for, ahead of its edge and behind it.
func TestFits(t *testing.T) {
	twelve := "a b c d e f g h i j k zz"
	for i, c := range []struct {
		r    api.Rule
		q    api.Request
		now  int
		want bool
	}{
		{every, bob, 0, true}, {api.Rule{}, bob, 0, false}, {api.Rule{To: 5}, bob, 0, true},
		{rule(func(r *api.Rule) { r.Who = "bob" }), bob, 9, true}, {rule(func(r *api.Rule) { r.Who = "bo" }), bob, 9, false}, {rule(func(r *api.Rule) { r.Who = "bobb" }), bob, 9, false}, {rule(func(r *api.Rule) { r.Who = "eve" }), bob, 9, false},
		{rule(func(r *api.Rule) { r.Word = "payroll" }), bob, 9, true}, {rule(func(r *api.Rule) { r.Word = "may" }), bob, 9, true}, {rule(func(r *api.Rule) { r.Word = "pay" }), bob, 9, false}, {rule(func(r *api.Rule) { r.Word = "bob" }), bob, 9, false},
		{rule(func(r *api.Rule) { r.Word = "zz" }), with(func(q *api.Request) { q.Reason = twelve }), 9, true}, {rule(func(r *api.Rule) { r.Word = "zz" }), with(func(q *api.Request) { q.Reason = twelve + " ZZ A" }), 9, true}, {rule(func(r *api.Rule) { r.Word = "zz" }), with(func(q *api.Request) { q.Reason = twelve + " y" }), 9, false}, {rule(func(r *api.Rule) { r.Word = "y" }), with(func(q *api.Request) { q.Reason = twelve + " y" }), 9, true},
		{rule(func(r *api.Rule) { r.Word = long(24) }), with(func(q *api.Request) { q.Reason = "-" + long(24) }), 9, true}, {rule(func(r *api.Rule) { r.Word = long(24) }), with(func(q *api.Request) { q.Reason = long(25) }), 9, false}, {rule(func(r *api.Rule) { r.Word = "x" }), with(func(q *api.Request) { q.Reason = "" }), 9, false}, {every, with(func(q *api.Request) { q.Reason = "" }), 9, true},
		{rule(func(r *api.Rule) { r.From = 4 }), bob, 9, true}, {rule(func(r *api.Rule) { r.From = 5 }), bob, 9, false}, {rule(func(r *api.Rule) { r.To = 4 }), bob, 9, false}, {rule(func(r *api.Rule) { r.To = 5 }), bob, 9, true}, {rule(func(r *api.Rule) { r.From, r.To = 4, 4 }), bob, 9, false}, {rule(func(r *api.Rule) { r.From, r.To = 5, 3 }), bob, 9, false},
		{every, with(func(q *api.Request) { q.Entry = 4095 }), 9, true}, {rule(func(r *api.Rule) { r.To = 4095 }), with(func(q *api.Request) { q.Entry = 4095 }), 9, false}, {every, with(func(q *api.Request) { q.Entry = 0 }), 9, true}, {rule(func(r *api.Rule) { r.From = 1 }), with(func(q *api.Request) { q.Entry = 0 }), 9, false},
		{rule(func(r *api.Rule) { r.Until = 9 }), bob, 9, true}, {rule(func(r *api.Rule) { r.Until = 9 }), bob, 10, false}, {rule(func(r *api.Rule) { r.Until = 0 }), bob, 0, true}, {rule(func(r *api.Rule) { r.Until = 0 }), bob, 1, false},
		{every, bob, 81, true}, {every, bob, 1 << 40, true}, {every, bob, 1<<40 + 1, false}, {every, bob, math.MaxInt, false},
		{rule(func(r *api.Rule) { r.Most, r.Allow = 0, false }), bob, 9, true},
	} {
		if policy.Fits(c.r, c.q, c.now) != c.want {
			t.Errorf("%d: Fits of %v and %v at %d: %v", i, c.r, c.q, c.now, !c.want)
		}
	}
}

// 20.1: a rule that may not be fits nothing, and nothing fits a request that may not be.
func TestFitsOfIll(t *testing.T) {
	for _, r := range illRules() {
		q := bob
		q.Who = r.Who
		for _, q := range []api.Request{bob, q} {
			if policy.Fits(r, q, 0) {
				t.Errorf("%.200v fits", r)
			}
		}
	}
	for _, q := range illRequests() {
		if policy.Fits(every, q, 0) || policy.Fits(api.Rule{Who: q.Who, To: 4096, Until: 1 << 40}, q, 0) {
			t.Errorf("something fits %.200v", q)
		}
	}
}

// 20.1: of rules and requests that were drawn.
func TestFitsAsTheWordsSay(t *testing.T) {
	r := rand.New(rand.NewSource(20))
	fit := 0
	for range 20000 {
		x, q, now := someRule(r), some(r), r.Intn(14)
		want := fits(x, q, now)
		if policy.Fits(x, q, now) != want {
			t.Fatalf("Fits of %v and %v at %d: %v", x, q, now, !want)
		}
		if want {
			fit++
		}
	}
	if fit < 1000 {
		t.Errorf("only %d fit", fit)
	}
}

// 20.1: which error is told, and of which thing.
func TestDecide(t *testing.T) {
	never := rule(func(r *api.Rule) { r.Allow = false })
	none := rule(func(r *api.Rule) { r.Most = 0 })
	one := rule(func(r *api.Rule) { r.Most = 1 })
	other := rule(func(r *api.Rule) { r.Who = "eve" })
	for i, c := range []struct {
		l         []api.Rule
		now, open int
		place     int
		want      api.Errno
		n         int
	}{
		{nil, 0, 0, -1, api.ErrRule, 7}, {nil, 80, 0, -1, api.ErrRule, 7}, {nil, 81, 0, -1, api.ErrLate, 7}, {nil, 81, -1, -1, api.ErrArg, -1},
		{[]api.Rule{every}, 80, 0, 0, api.OK, 0}, {[]api.Rule{every}, 81, 0, -1, api.ErrLate, 7}, {[]api.Rule{every}, 1 << 40, 0, -1, api.ErrLate, 7}, {[]api.Rule{every}, 1<<40 + 1, 0, -1, api.ErrArg, -1}, {[]api.Rule{every}, -1, 0, -1, api.ErrArg, -1}, {[]api.Rule{every}, math.MinInt, 0, -1, api.ErrArg, -1}, {[]api.Rule{every}, math.MaxInt, 0, -1, api.ErrArg, -1}, {[]api.Rule{every}, 0, 0, 0, api.OK, 0},
		{[]api.Rule{every}, 0, -1, -1, api.ErrArg, -1}, {[]api.Rule{every}, 0, math.MinInt, -1, api.ErrArg, -1}, {[]api.Rule{every}, 0, 49, 0, api.OK, 0}, {[]api.Rule{every}, 0, 50, 0, api.ErrFull, 0}, {[]api.Rule{every}, 0, math.MaxInt, 0, api.ErrFull, 0},
		{[]api.Rule{one}, 0, 0, 0, api.OK, 0}, {[]api.Rule{one}, 0, 1, 0, api.ErrFull, 0}, {[]api.Rule{one}, 0, 2, 0, api.ErrFull, 0}, {[]api.Rule{none}, 0, 0, 0, api.ErrFull, 0},
		{[]api.Rule{never}, 0, 0, 0, api.ErrRule, 0}, {[]api.Rule{never}, 0, 60, 0, api.ErrRule, 0}, {[]api.Rule{never}, 81, 0, -1, api.ErrLate, 7},
		{[]api.Rule{other}, 0, 0, -1, api.ErrRule, 7}, {[]api.Rule{other, other, every}, 0, 0, 2, api.OK, 0}, {[]api.Rule{other, every, other}, 0, 50, 1, api.ErrFull, 1}, {[]api.Rule{other, never}, 0, 0, 1, api.ErrRule, 1},
		{[]api.Rule{never, every}, 0, 0, 0, api.ErrRule, 0}, {[]api.Rule{every, never}, 0, 0, 0, api.OK, 0}, {[]api.Rule{none, every}, 0, 0, 0, api.ErrFull, 0}, {[]api.Rule{every, none}, 0, 0, 0, api.OK, 0},
		{append(slices.Repeat([]api.Rule{other}, 19), every), 0, 0, 19, api.OK, 0}, {append(slices.Repeat([]api.Rule{other}, 19), never), 0, 0, 19, api.ErrRule, 19}, {slices.Repeat([]api.Rule{every}, 21), 0, 0, -1, api.ErrArg, -1}, {slices.Repeat([]api.Rule{every}, 21), 81, 0, -1, api.ErrArg, -1},
	} {
		place, err := policy.Decide(c.l, bob, c.now, c.open)
		if place != c.place {
			t.Errorf("%d: Decide: %d, not %d", i, place, c.place)
		}
		isFault(t, err, c.want, c.n)
	}
}

// 20.1: rules of which one may not be decide nothing, wherever it stands; nor is a request decided that may not be, late or not.
func TestDecideOfIll(t *testing.T) {
	for _, r := range illRules() {
		for _, l := range [][]api.Rule{{r}, {every, r}, {r, every}} {
			place, err := policy.Decide(l, bob, 81, 0)
			if place != -1 {
				t.Errorf("Decide by %.200v: %d", r, place)
			}
			isFault(t, err, api.ErrArg, -1)
		}
	}
	for _, q := range illRequests() {
		for _, now := range []int{0, 81, 1 << 40} {
			place, err := policy.Decide([]api.Rule{every}, q, now, 0)
			if place != -1 {
				t.Errorf("Decide of %.200v: %d", q, place)
			}
			isFault(t, err, api.ErrArg, -1)
		}
	}
}

// 20.1, 20.3: of policies that were drawn; the rules behind one that fits do not count.
func TestDecideAsTheWordsSay(t *testing.T) {
	r := rand.New(rand.NewSource(21))
	seen := map[string]int{}
	for range 20000 {
		var l []api.Rule
		for range r.Intn(8) {
			l = append(l, someRule(r))
		}
		was := slices.Clone(l)
		q, now, open := some(r), r.Intn(14), r.Intn(5)
		want, e, n := decide(l, q, now, open)
		place, err := policy.Decide(l, q, now, open)
		if place != want {
			t.Fatalf("Decide of %v by %v at %d: %d, not %d", q, l, now, place, want)
		}
		isFault(t, err, e, n)
		seen[fmt.Sprint(e, place >= 0)]++
		if place >= 0 {
			l = append(l[:place+1:place+1], someRule(r))
			if again, err := policy.Decide(l, q, now, open); again != place || api.Code(err) != e {
				t.Fatalf("another rule behind the place %d: %d, %v", place, again, err)
			}
		}
		if !slices.Equal(l[:max(place, 0)], was[:max(place, 0)]) || t.Failed() {
			t.Fatalf("of %v by %v at %d", q, was, now)
		}
	}
	if len(seen) != 5 {
		t.Errorf("there are other answers: %v", seen)
	}
}

// 20.2, 20.3, P7: requests and policies have the bytes that the words say, and are read as they were.
func TestText(t *testing.T) {
	for _, q := range requests() {
		s := policy.RequestText(q)
		if s != bytesOf(q) {
			t.Errorf("RequestText of %v: %x", q, s)
		}
		if x, e := policy.ReadRequest(s); x != q || e != api.OK {
			t.Errorf("%v is read as %v, %v", q, x, e)
		}
	}
	good := rules()
	policies := [][]api.Rule{nil, {}, good[:20], good[len(good)-20:], slices.Repeat([]api.Rule{good[2]}, 20)}
	for _, r := range good {
		policies = append(policies, []api.Rule{r}, []api.Rule{every, r, {}})
	}
	for _, l := range policies {
		s := policy.Text(l)
		if s != policyBytes(l) {
			t.Errorf("Text of %v: %x", l, s)
		}
		if x, e := policy.Read(s); !slices.Equal(x, l) || e != api.OK {
			t.Errorf("%v is read as %v, %v", l, x, e)
		}
	}
}

// writable tells whether numbers are such that an item has bytes, though it may not be.
func writable(l ...int) bool { return slices.Min(l) >= 0 && slices.Max(l) <= api.MaxNum }

// refusedRequest asks whether bytes are those of no request, refused whether they are those of no policy.
func refusedRequest(t *testing.T, s string) {
	t.Helper()
	if q, e := policy.ReadRequest(s); q != (api.Request{}) || e != api.ErrForm {
		t.Errorf("ReadRequest of %.100x: %v, %v", s, q, e)
	}
}

func refused(t *testing.T, s string) {
	t.Helper()
	if l, e := policy.Read(s); len(l) != 0 || e != api.ErrForm {
		t.Errorf("Read of %.100x: %v, %v", s, l, e)
	}
}

// 20.2: what may not be has no bytes, and those that it would have are not read.
func TestTextOfIll(t *testing.T) {
	for _, q := range illRequests() {
		if s := policy.RequestText(q); s != "" {
			t.Errorf("RequestText of %.200v: %.100x", q, s)
		}
		if writable(q.ID, q.Entry, q.Expires) {
			refusedRequest(t, bytesOf(q))
		}
	}
	for _, r := range illRules() {
		for _, l := range [][]api.Rule{{r}, {every, r}, {r, every}} {
			if s := policy.Text(l); s != "" {
				t.Errorf("Text of %.200v: %.100x", r, s)
			}
			if writable(r.From, r.To, r.Until, r.Most) {
				refused(t, policyBytes(l))
			}
		}
	}
	for _, n := range []int{21, 22, 1024} {
		l := make([]api.Rule, n)
		if s := policy.Text(l); s != "" {
			t.Errorf("Text of %d rules: %.100x", n, s)
		}
		refused(t, policyBytes(l))
	}
}

// 20.2, P7: bytes of no request: lists of other things, other ways to write, pieces, and more.
func TestReadRequestOfWrong(t *testing.T) {
	s := policy.RequestText(bob)
	for i := range len(s) {
		refusedRequest(t, s[:i])
		refusedRequest(t, s[i+1:])
	}
	id, who, entry, why, ends := num(7), text("bob"), num(4), text("the payroll of May"), num(80)
	if list(id, who, entry, why, ends) != s {
		t.Fatalf("RequestText: %x", s)
	}
	for _, x := range []string{
		s + "\x00", s + "x", s + s, "\x00" + s, list(s), text(s), list(), num(7), text(""), list(list()), long(70000), "\x0a", "\xff",
		list(id, who, entry, why), list(who, entry, why, ends), list(id, who, entry, why, ends, num(0)), list(id, who, entry, why, ends, list()),
		list(who, id, entry, why, ends), list(id, entry, who, why, ends), list(id, who, why, entry, ends), list(id, who, entry, ends, why),
		list(text("7"), who, entry, why, ends), list(id, num(5), entry, why, ends), list(id, who, text("4"), why, ends), list(id, who, entry, num(5), ends), list(id, who, entry, why, text("80")),
		list(list(), who, entry, why, ends), list(id, list(), entry, why, ends), list(id, who, list(), why, ends), list(id, who, entry, list(), ends), list(id, who, entry, why, list()), list(id, list(who), entry, why, ends),
		list("\x02\x00\x07", who, entry, why, ends), list(id, who, "\x02\x00\x04", why, ends), list(id, who, entry, why, "\x02\x00\x50"), list(id, "\x08\x02\x00\x03bob", entry, why, ends), "\x09\x02\x00\x05" + s[3:],
		list(num(0), who, entry, why, ends), list(id, text("BOB"), entry, why, ends), list(id, who, num(4096), why, ends), list(id, who, entry, text(long(121)), ends), list(id, who, entry, why, num(1<<40+1)),
	} {
		refusedRequest(t, x)
	}
	if x, e := policy.ReadRequest(list(id, who, entry, text(""), num(0))); e != api.OK || x != (api.Request{ID: 7, Who: "bob", Entry: 4}) {
		t.Errorf("ReadRequest: %v, %v", x, e)
	}
}

// 20.2, P7: bytes of no policy, likewise.
func TestReadOfWrong(t *testing.T) {
	s := policy.Text([]api.Rule{{Who: "bob", Word: "payroll", From: 1, To: 9, Until: 50, Most: 2, Allow: true}, {}})
	for i := range len(s) {
		refused(t, s[:i])
		refused(t, s[i+1:])
	}
	who, word, from, to, until, most, yes := text("bob"), text("payroll"), num(1), num(9), num(50), num(2), num(1)
	one, zero := list(who, word, from, to, until, most, yes), list(text(""), text(""), num(0), num(0), num(0), num(0), num(0))
	if list(one, zero) != s {
		t.Fatalf("Text: %x", s)
	}
	rules := []string{
		list(), num(0), text(""), text(one), list(one), who, list(who, word, from, to, until, most), list(word, from, to, until, most, yes), list(who, word, from, to, until, most, yes, num(0)), list(who, word, from, to, until, most, yes, list()),
		list(num(0), word, from, to, until, most, yes), list(who, num(0), from, to, until, most, yes), list(who, word, text(""), to, until, most, yes), list(who, word, from, text(""), until, most, yes), list(who, word, from, to, text(""), most, yes), list(who, word, from, to, until, text(""), yes), list(who, word, from, to, until, most, text("")), list(who, word, from, to, until, most, text("\x01")),
		list(list(), word, from, to, until, most, yes), list(who, list(), from, to, until, most, yes), list(who, word, list(), to, until, most, yes), list(who, word, from, list(), until, most, yes), list(who, word, from, to, list(), most, yes), list(who, word, from, to, until, list(), yes), list(who, word, from, to, until, most, list()),
		list(who, word, from, to, until, most, num(2)), list(who, word, from, to, until, most, num(255)), list(who, word, from, to, until, most, num(256)), list(who, word, from, to, until, most, num(api.MaxNum)), list(who, word, from, to, until, most, "\x01\x00"), list(who, word, from, to, until, most, "\x02\x00\x01"),
		list(who, word, "\x02\x00\x01", to, until, most, yes), list("\x08\x02\x00\x03bob", word, from, to, until, most, yes), list(who, text("Payroll"), from, to, until, most, yes), list(text("Bob"), word, from, to, until, most, yes), list(who, word, num(4097), to, until, most, yes), list(who, word, from, num(4097), until, most, yes), list(who, word, from, to, num(1<<40+1), most, yes), list(who, word, from, to, until, num(51), yes),
	}
	for _, x := range rules {
		refused(t, list(x))
		refused(t, list(one, x))
		refused(t, list(x, one))
	}
	for _, x := range []string{"", "\x00", "x", "\x09", s + "\x00", s + "x", s + s, "\x00" + s, one, list(s), text(s), text(""), num(0), num(5), long(70000), "\x09\x02\x00\x02" + s[3:], list(slices.Repeat([]string{one}, 21)...), list(slices.Repeat([]string{num(0)}, 1024)...)} {
		refused(t, x)
	}
}

// 20.3, P7: bytes of which any bit is turned, and bytes that were drawn: what is read, written again, are these bytes.
func TestReadOfAnyBytes(t *testing.T) {
	r := rand.New(rand.NewSource(22))
	read := 0
	ask := func(s string) {
		if q, e := policy.ReadRequest(s); e == api.OK && (policy.RequestText(q) != s || !policy.Request(q)) {
			t.Errorf("ReadRequest of %x: %v", s, q)
		} else if e == api.OK {
			read++
		}
		if l, e := policy.Read(s); e == api.OK && (policy.Text(l) != s || !policy.Check(l)) {
			t.Errorf("Read of %x: %v", s, l)
		} else if e == api.OK {
			read++
		}
	}
	for range 300 {
		a, b := []byte(policy.RequestText(some(r))), []byte(policy.Text([]api.Rule{someRule(r), someRule(r)}))
		for _, s := range [][]byte{a, b} {
			for i := range 8 * len(s) {
				s[i/8] ^= 1 << (i % 8)
				ask(string(s))
				s[i/8] ^= 1 << (i % 8)
			}
		}
		s := make([]byte, r.Intn(40))
		r.Read(s)
		ask(string(s))
	}
	if read < 1000 {
		t.Errorf("only %d were read", read)
	}
}

// 20.2: the bytes of a policy are not those of a request, nor the other way round.
func TestOneIsNotTheOther(t *testing.T) {
	for _, q := range requests() {
		refused(t, policy.RequestText(q))
	}
	for _, r := range rules() {
		refusedRequest(t, policy.Text([]api.Rule{r}))
	}
	refusedRequest(t, policy.Text(nil))
}

// R1: texts and numbers of any size end soon.
func TestGreatArguments(t *testing.T) {
	great := strings.Repeat("a", 1<<24)
	q, r := with(func(q *api.Request) { q.Who, q.Reason = great, great }), rule(func(r *api.Rule) { r.Who, r.Word = great, great })
	for range 20 {
		if policy.Request(q) || policy.Check([]api.Rule{r}) || policy.Fits(r, q, 0) || policy.RequestText(q) != "" || policy.Text([]api.Rule{r}) != "" {
			t.Fatal("what is far too long may be")
		}
		refused(t, great)
		refusedRequest(t, great)
	}
}
