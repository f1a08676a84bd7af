package server

import (
	"strings"

	"lockbox/api"
	"lockbox/canon"
)

const (
	maxAsked = 4000 // bytes of a text of an ask
	maxCode  = 255
)

// mayBe tells whether an ask may be.
func mayBe(a api.Ask) bool {
	switch a.Op {
	case api.OpPut, api.OpHead, api.OpTop, api.OpLeaf, api.OpBridge, api.OpFind:
		return isSize(a.A) && isSize(a.B) && len(a.S) <= maxAsked && len(a.T) <= maxAsked
	}
	return false
}

func isSize(n int) bool { return n >= 0 && n <= api.MaxLeaves }

// bytesOf is the bytes of a list; none, if they are too many.
func bytesOf(items ...api.Item) string {
	s, _ := canon.Encode(canon.List(items...))
	return s
}

// AskText is an ask's bytes.
func AskText(a api.Ask) string {
	if !mayBe(a) {
		return ""
	}
	return bytesOf(canon.Text(a.Op), canon.Num(a.A), canon.Num(a.B), canon.Text(a.S), canon.Text(a.T))
}

// ReadAsk is the ask of bytes.
func ReadAsk(s string) (api.Ask, api.Errno) {
	x, e := canon.Decode(s)
	if e != api.OK || !canon.Shape(x, "tnntt") {
		return api.Ask{}, api.ErrForm
	}
	a := api.Ask{Op: strings.Clone(x.L[0].S), A: x.L[1].N, B: x.L[2].N, S: strings.Clone(x.L[3].S), T: strings.Clone(x.L[4].S)}
	if !mayBe(a) {
		return api.Ask{}, api.ErrForm
	}
	return a, api.OK
}

// ReplyText is a reply's bytes.
func ReplyText(r api.Reply) string {
	if r.Code < 0 || r.Code > maxCode {
		return ""
	}
	var texts []api.Item
	for _, s := range r.Texts {
		texts = append(texts, canon.Text(s))
	}
	return bytesOf(canon.Num(r.Code), canon.List(texts...))
}

// ReadReply is the reply of bytes.
func ReadReply(s string) (api.Reply, api.Errno) {
	x, e := canon.Decode(s)
	if e != api.OK || !canon.Shape(x, "nl") || x.L[0].N > maxCode {
		return api.Reply{}, api.ErrForm
	}
	r := api.Reply{Code: x.L[0].N}
	for _, y := range x.L[1].L {
		if y.Kind != api.ItemText {
			return api.Reply{}, api.ErrForm
		}
		r.Texts = append(r.Texts, strings.Clone(y.S))
	}
	return r, api.OK
}
