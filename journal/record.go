package journal

import (
	"lockbox/api"
	"lockbox/canon"
	"lockbox/policy"
	"lockbox/request"
)

// The kinds of records.
const (
	puts     = 0
	approves = 1
	denies   = 2
	revokes  = 3
)

// record is what is done to a book.
type record struct {
	kind int
	q    api.Request // of one that puts
	id   int         // of the others
	who  string      // of one that revokes
	now  int
}

// do does it.
func (x record) do(b *request.Book) error {
	switch x.kind {
	case puts:
		return b.Put(x.q, x.now)
	case approves:
		return b.Approve(x.id, x.now)
	case denies:
		return b.Deny(x.id, x.now)
	}
	return b.Revoke(x.id, x.who, x.now)
}

// text is a record's bytes. What a book takes is always short enough to have them.
func (x record) text() string {
	items := []api.Item{canon.Num(x.kind)}
	switch x.kind {
	case puts:
		items = append(items, canon.Text(policy.RequestText(x.q)))
	case approves, denies:
		items = append(items, canon.Num(x.id))
	case revokes:
		items = append(items, canon.Num(x.id), canon.Text(x.who))
	}
	s, _ := canon.Encode(canon.List(append(items, canon.Num(x.now))...))
	return s
}

// read is the record of bytes. Whether it can be done is not asked here.
func read(s string) (record, bool) {
	y, e := canon.Decode(s)
	if e != api.OK || len(y.L) == 0 {
		return record{}, false
	}
	x := record{kind: y.L[0].N}
	switch {
	case x.kind == puts && canon.Shape(y, "ntn"):
		x.q, e = policy.ReadRequest(y.L[1].S)
		x.now = y.L[2].N
	case (x.kind == approves || x.kind == denies) && canon.Shape(y, "nnn"):
		x.id, x.now = y.L[1].N, y.L[2].N
	case x.kind == revokes && canon.Shape(y, "nntn"):
		x.id, x.who, x.now = y.L[1].N, y.L[2].S, y.L[3].N
	default:
		return record{}, false
	}
	return x, e == api.OK
}
