package query

import (
	"strings"

	"lockbox/api"
	"lockbox/canon"
)

func wayItem(way []string) api.Item {
	var l []api.Item
	for _, d := range way {
		l = append(l, canon.Text(d))
	}
	return canon.List(l...)
}

func hitItem(h api.Hit) api.Item { return canon.List(canon.Text(h.Leaf), wayItem(h.Way)) }

func hitsItem(hits []api.Hit) api.Item {
	var l []api.Item
	for _, h := range hits {
		l = append(l, hitItem(h))
	}
	return canon.List(l...)
}

func rowItem(r api.RowProof) api.Item {
	return canon.List(canon.Num(r.At), canon.Text(r.Row.Tag), canon.Num(r.Row.Count), canon.Num(r.Row.Last), wayItem(r.Way))
}

func indexItem(p api.IndexProof) api.Item {
	var l []api.Item
	for _, r := range p.Rows {
		l = append(l, rowItem(r))
	}
	return canon.List(canon.Num(p.Size), canon.List(l...))
}

// Text is an answer's bytes.
func Text(a api.Answer) (string, api.Errno) {
	return canon.Encode(canon.List(hitItem(a.Last), indexItem(a.Index), hitsItem(a.Hits)))
}

func readWay(x api.Item) (way []string, ok bool) {
	for _, y := range x.L {
		if y.Kind != api.ItemText {
			return nil, false
		}
		way = append(way, strings.Clone(y.S))
	}
	return way, true
}

func readHit(x api.Item) (h api.Hit, ok bool) {
	if !canon.Shape(x, "tl") {
		return api.Hit{}, false
	}
	h.Leaf = strings.Clone(x.L[0].S)
	h.Way, ok = readWay(x.L[1])
	return h, ok
}

func readHits(x api.Item) (hits []api.Hit, ok bool) {
	for _, y := range x.L {
		h, ok := readHit(y)
		if !ok {
			return nil, false
		}
		hits = append(hits, h)
	}
	return hits, true
}

func readRow(x api.Item) (r api.RowProof, ok bool) {
	if !canon.Shape(x, "ntnnl") {
		return api.RowProof{}, false
	}
	r.At = x.L[0].N
	r.Row = api.Row{Tag: strings.Clone(x.L[1].S), Count: x.L[2].N, Last: x.L[3].N}
	r.Way, ok = readWay(x.L[4])
	return r, ok
}

func readIndex(x api.Item) (p api.IndexProof, ok bool) {
	if !canon.Shape(x, "nl") {
		return api.IndexProof{}, false
	}
	p.Size = x.L[0].N
	for _, y := range x.L[1].L {
		r, ok := readRow(y)
		if !ok {
			return api.IndexProof{}, false
		}
		p.Rows = append(p.Rows, r)
	}
	return p, true
}

// Read is the answer of bytes.
func Read(s string) (api.Answer, api.Errno) {
	x, e := canon.Decode(s)
	if e != api.OK || !canon.Shape(x, "lll") {
		return api.Answer{}, api.ErrForm
	}
	last, isHit := readHit(x.L[0])
	proof, isIndex := readIndex(x.L[1])
	hits, areHits := readHits(x.L[2])
	if !isHit || !isIndex || !areHits {
		return api.Answer{}, api.ErrForm
	}
	return api.Answer{Last: last, Index: proof, Hits: hits}, api.OK
}
