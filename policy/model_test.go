package policy_test

import (
	"errors"
	"math"
	"math/rand"
	"slices"
	"strings"
	"testing"

	"lockbox/api"
)

// num, text and list are items as the words of layer 2 write them.
func num(n int) string {
	s := ""
	for ; n > 0; n /= 256 {
		s = string([]byte{byte(n)}) + s
	}
	return string([]byte{byte(len(s))}) + s
}

func text(s string) string { return "\x08" + num(len(s)) + s }

func list(l ...string) string { return "\x09" + num(len(l)) + strings.Join(l, "") }

// bytesOf is a request's bytes, ruleBytes a rule's, as the document's words say.
func bytesOf(q api.Request) string {
	return list(num(q.ID), text(q.Who), num(q.Entry), text(q.Reason), num(q.Expires))
}

func ruleBytes(r api.Rule) string {
	allow := map[bool]int{true: 1}[r.Allow]
	return list(text(r.Who), text(r.Word), num(r.From), num(r.To), num(r.Until), num(r.Most), num(allow))
}

func policyBytes(l []api.Rule) string {
	var s []string
	for _, r := range l {
		s = append(s, ruleBytes(r))
	}
	return list(s...)
}

// long is a text of so many bytes.
func long(n int) string { return strings.Repeat("x", n) }

// bob is a request that may be; with makes another one of it.
var bob = api.Request{ID: 7, Who: "bob", Entry: 4, Reason: "the payroll of May", Expires: 80}

func with(f func(*api.Request)) api.Request {
	q := bob
	f(&q)
	return q
}

// every is a rule that fits all; rule makes another one of it.
var every = api.Rule{To: 4096, Until: 1 << 40, Most: 50, Allow: true}

func rule(f func(*api.Rule)) api.Rule {
	r := every
	f(&r)
	return r
}

// names are some that are names, noNames some that are not.
func names() []string {
	return []string{"b", "bob", "a", "z", "0", "9", "-", ".", "..", "-.-", "a.b-c", "az09-.", long(23), long(24), strings.Repeat(".", 24)}
}

func noNames() []string {
	l := []string{"Bob", "bOB", "bo b", " bob", "bob ", "bob\x00", "\xffbob", "b\xc3\xb6b", long(25), long(26), strings.Repeat(long(25), 4000)}
	for c := range 256 {
		if !strings.Contains("abcdefghijklmnopqrstuvwxyz0123456789-.", string([]byte{byte(c)})) {
			l = append(l, string([]byte{byte(c)}), "bo"+string([]byte{byte(c)}))
		}
	}
	return l
}

// beyond are numbers that are not from a least to a most.
func beyond(least, most int) []int {
	return []int{least - 1, most + 1, math.MinInt, math.MaxInt, -1 << 32, 1<<56 - 1, 1 << 56}
}

// requests are some that may be, at all edges.
func requests() []api.Request {
	l := []api.Request{bob, {ID: 1, Who: "a"}, {ID: 1 << 20, Who: long(24), Entry: 4095, Reason: long(120), Expires: 1 << 40}}
	for _, id := range []int{1, 2, 255, 256, 65536, 1<<20 - 1, 1 << 20} {
		l = append(l, with(func(q *api.Request) { q.ID = id }))
	}
	for _, who := range names() {
		l = append(l, with(func(q *api.Request) { q.Who = who }))
	}
	for _, entry := range []int{0, 1, 255, 256, 4094, 4095} {
		l = append(l, with(func(q *api.Request) { q.Entry = entry }))
	}
	for _, reason := range []string{"", "x", "\x00", "\xff\xfe", "\x08\x00", bytesOf(bob), long(119), long(120), strings.Repeat("\x00", 120)} {
		l = append(l, with(func(q *api.Request) { q.Reason = reason }))
	}
	for _, expires := range []int{0, 1, 255, 1 << 32, 1<<40 - 1, 1 << 40} {
		l = append(l, with(func(q *api.Request) { q.Expires = expires }))
	}
	return l
}

// illRequests are some that may not be: of each one thing is wrong.
func illRequests() []api.Request {
	l := []api.Request{{}}
	for _, id := range beyond(1, 1<<20) {
		l = append(l, with(func(q *api.Request) { q.ID = id }))
	}
	for _, who := range append(noNames(), "") {
		l = append(l, with(func(q *api.Request) { q.Who = who }))
	}
	for _, entry := range beyond(0, 4095) {
		l = append(l, with(func(q *api.Request) { q.Entry = entry }))
	}
	for _, n := range []int{121, 122, 65536, 1 << 20} {
		l = append(l, with(func(q *api.Request) { q.Reason = long(n) }))
	}
	for _, expires := range beyond(0, 1<<40) {
		l = append(l, with(func(q *api.Request) { q.Expires = expires }))
	}
	return l
}

// rules are some that may be, at all edges.
func rules() []api.Rule {
	l := []api.Rule{{}, every, {Who: long(24), Word: long(24), From: 4096, To: 4096, Until: 1 << 40, Most: 50, Allow: true}}
	for _, who := range append(names(), "") {
		l = append(l, rule(func(r *api.Rule) { r.Who = who }))
	}
	for _, word := range []string{"", "a", "z", "0", "9", "payroll", "cat2", "az09", long(23), long(24)} {
		l = append(l, rule(func(r *api.Rule) { r.Word = word }))
	}
	for _, n := range []int{0, 1, 4, 5, 4095, 4096} {
		l = append(l, rule(func(r *api.Rule) { r.From = n }), rule(func(r *api.Rule) { r.To = n }), rule(func(r *api.Rule) { r.From, r.To = n, n }))
	}
	for _, until := range []int{0, 1, 79, 80, 81, 1<<40 - 1, 1 << 40} {
		l = append(l, rule(func(r *api.Rule) { r.Until = until }))
	}
	for _, most := range []int{0, 1, 49, 50} {
		l = append(l, rule(func(r *api.Rule) { r.Most = most }), rule(func(r *api.Rule) { r.Most, r.Allow = most, false }))
	}
	return l
}

// illRules are some that may not be: of each one thing is wrong.
func illRules() []api.Rule {
	var l []api.Rule
	for _, who := range noNames() {
		l = append(l, rule(func(r *api.Rule) { r.Who = who }))
	}
	for _, word := range []string{"A", "Payroll", "payrolL", "pay roll", "pay-roll", "a.", "-", ".", " ", " a", "a ", "\x00", "\xff", "a\xc3\xb6", long(25), long(26), long(1 << 20)} {
		l = append(l, rule(func(r *api.Rule) { r.Word = word }))
	}
	for _, n := range beyond(0, 4096) {
		l = append(l, rule(func(r *api.Rule) { r.From = n }), rule(func(r *api.Rule) { r.To = n }))
	}
	for _, until := range beyond(0, 1<<40) {
		l = append(l, rule(func(r *api.Rule) { r.Until = until }))
	}
	for _, most := range beyond(0, 50) {
		l = append(l, rule(func(r *api.Rule) { r.Most = most }))
	}
	return l
}

// wordsOf are a text's words as the document's words say: all runs of letters first, the first twelve of them last.
func wordsOf(s string) []string {
	runs := strings.FieldsFunc(s, func(c rune) bool {
		return !(c >= 'a' && c <= 'z' || c >= 'A' && c <= 'Z' || c >= '0' && c <= '9')
	})
	var l []string
	for _, r := range runs {
		if len(r) <= 24 {
			l = append(l, strings.ToLower(r))
		}
	}
	slices.Sort(l)
	l = slices.Compact(l)
	return l[:min(len(l), 12)]
}

// fits is whether a rule that may be fits a request that may be.
func fits(r api.Rule, q api.Request, now int) bool {
	if r.Who != "" && r.Who != q.Who || r.Word != "" && !slices.Contains(wordsOf(q.Reason), r.Word) {
		return false
	}
	return r.From <= q.Entry && q.Entry < r.To && now <= r.Until
}

// decide is what Decide answers of a policy, a request, a time and a number that may be.
func decide(l []api.Rule, q api.Request, now, open int) (place int, e api.Errno, n int) {
	if now > q.Expires {
		return -1, api.ErrLate, q.ID
	}
	for i, r := range l {
		switch {
		case !fits(r, q, now):
			continue
		case !r.Allow:
			return i, api.ErrRule, i
		case open >= r.Most:
			return i, api.ErrFull, i
		}
		return i, api.OK, 0
	}
	return -1, api.ErrRule, q.ID
}

// isFault asks whether an error is a fault of this layer that wraps e, or none, if e is OK.
func isFault(t *testing.T, err error, e api.Errno, n int) {
	t.Helper()
	if e == api.OK {
		if err != nil {
			t.Errorf("%v, where there is no error", err)
		}
		return
	}
	f, ok := err.(*api.Fault)
	if !ok || f == nil || *f != (api.Fault{Op: "policy", N: n, Err: e}) || !errors.Is(err, e) || api.Code(err) != e {
		t.Errorf("%#v, not %v of %d", err, e, n)
	}
}

// some draws a request that rules of someRule often fit.
func some(r *rand.Rand) api.Request {
	var reason []string
	for range r.Intn(5) {
		reason = append(reason, []string{"payroll", "PAY", "audit", "May", "2", long(24), long(25)}[r.Intn(7)])
	}
	return api.Request{ID: 1 + r.Intn(9), Who: []string{"bob", "eve", "a.b"}[r.Intn(3)], Entry: r.Intn(6), Reason: strings.Join(reason, ", "), Expires: r.Intn(12)}
}

func someRule(r *rand.Rand) api.Rule {
	x := api.Rule{From: r.Intn(4), To: r.Intn(8), Until: r.Intn(12), Most: r.Intn(4), Allow: r.Intn(3) > 0}
	if r.Intn(2) == 0 {
		x.Who = []string{"bob", "eve", "a.b"}[r.Intn(3)]
	}
	if r.Intn(2) == 0 {
		x.Word = []string{"payroll", "pay", "audit", "may", "2", long(24)}[r.Intn(6)]
	}
	return x
}
