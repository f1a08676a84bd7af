package policy

import (
	"strings"

	"lockbox/api"
	"lockbox/canon"
)

// bytesOf is the bytes of a list; a request or a policy that may be is always short enough to have them.
func bytesOf(items ...api.Item) string {
	s, _ := canon.Encode(canon.List(items...))
	return s
}

// RequestText is a request's bytes.
func RequestText(q api.Request) string {
	if !Request(q) {
		return ""
	}
	return bytesOf(canon.Num(q.ID), canon.Text(q.Who), canon.Num(q.Entry), canon.Text(q.Reason), canon.Num(q.Expires))
}

// ReadRequest is the request of bytes.
func ReadRequest(s string) (api.Request, api.Errno) {
	x, e := canon.Decode(s)
	if e != api.OK || !canon.Shape(x, "ntntn") {
		return api.Request{}, api.ErrForm
	}
	q := api.Request{ID: x.L[0].N, Who: strings.Clone(x.L[1].S), Entry: x.L[2].N, Reason: strings.Clone(x.L[3].S), Expires: x.L[4].N}
	if !Request(q) {
		return api.Request{}, api.ErrForm
	}
	return q, api.OK
}

func ruleItem(r api.Rule) api.Item {
	allow := 0
	if r.Allow {
		allow = 1
	}
	return canon.List(canon.Text(r.Who), canon.Text(r.Word), canon.Num(r.From), canon.Num(r.To), canon.Num(r.Until), canon.Num(r.Most), canon.Num(allow))
}

// Text is a policy's bytes.
func Text(l []api.Rule) string {
	if !Check(l) {
		return ""
	}
	var rules []api.Item
	for _, r := range l {
		rules = append(rules, ruleItem(r))
	}
	return bytesOf(rules...)
}

// readRule is the rule of an item. Whether it may be is not asked here.
func readRule(x api.Item) (r api.Rule, ok bool) {
	if !canon.Shape(x, "ttnnnnn") || x.L[6].N > 1 {
		return api.Rule{}, false
	}
	return api.Rule{
		Who:   strings.Clone(x.L[0].S),
		Word:  strings.Clone(x.L[1].S),
		From:  x.L[2].N,
		To:    x.L[3].N,
		Until: x.L[4].N,
		Most:  x.L[5].N,
		Allow: x.L[6].N == 1,
	}, true
}

// Read is the policy of bytes.
func Read(s string) ([]api.Rule, api.Errno) {
	x, e := canon.Decode(s)
	if e != api.OK || x.Kind != api.ItemList {
		return nil, api.ErrForm
	}
	var l []api.Rule
	for _, y := range x.L {
		r, ok := readRule(y)
		if !ok {
			return nil, api.ErrForm
		}
		l = append(l, r)
	}
	if !Check(l) {
		return nil, api.ErrForm
	}
	return l, api.OK
}
