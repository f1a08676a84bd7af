package canon

import "lockbox/api"

// reader goes through the bytes of an item.
type reader struct {
	s    string
	at   int
	owed int // how many items must follow the one at hand, in all lists around it
}

// room tells whether so many more bytes may stand here: each item that is owed needs one of its own behind them.
func (r *reader) room(n int) bool { return r.at+n+r.owed <= api.MaxText }

func (r *reader) next() (int, api.Errno) {
	if r.at == len(r.s) {
		return 0, api.ErrShort
	}
	r.at++
	return int(r.s[r.at-1]), api.OK
}

// item reads an item around which so many lists stand.
func (r *reader) item(around int) (api.Item, api.Errno) {
	kind, e := r.next()
	if e != api.OK {
		return api.Item{}, e
	}
	least := kind // bytes that follow: a number has as many as it says
	switch kind {
	case listByte:
		if around == api.MaxDeep {
			return api.Item{}, api.ErrForm
		}
		fallthrough
	case textByte:
		least = 1
	}
	if kind > listByte || !r.room(least) {
		return api.Item{}, api.ErrForm
	}
	switch kind {
	case listByte:
		return r.list(around)
	case textByte:
		return r.text()
	}
	n, e := r.number(kind)
	if e != api.OK {
		return api.Item{}, e
	}
	return Num(n), api.OK
}

// number reads a number of so many bytes. A 0 at its front would be a second way to write it.
func (r *reader) number(size int) (int, api.Errno) {
	n := 0
	for i := range size {
		c, e := r.next()
		if e != api.OK {
			return 0, e
		}
		if i == 0 && c == 0 {
			return 0, api.ErrForm
		}
		n = n<<8 | c
	}
	return n, api.OK
}

// count reads how many bytes or items follow. What is too many is told by the last byte alone.
func (r *reader) count(most int) (int, api.Errno) {
	size, e := r.next()
	if e != api.OK {
		return 0, e
	}
	if size > mostNumber {
		return 0, api.ErrForm
	}
	n, e := r.number(size)
	if e != api.OK {
		return 0, e
	}
	if n > most || !r.room(n) {
		return 0, api.ErrForm
	}
	return n, api.OK
}

func (r *reader) text() (api.Item, api.Errno) {
	n, e := r.count(api.MaxText)
	if e != api.OK {
		return api.Item{}, e
	}
	if len(r.s)-r.at < n {
		return api.Item{}, api.ErrShort
	}
	r.at += n
	return Text(r.s[r.at-n : r.at]), api.OK
}

func (r *reader) list(around int) (api.Item, api.Errno) {
	n, e := r.count(api.MaxItems)
	if e != api.OK {
		return api.Item{}, e
	}
	r.owed += n
	var l []api.Item
	for range n {
		r.owed--
		x, e := r.item(around + 1)
		if e != api.OK {
			return api.Item{}, e
		}
		l = append(l, x)
	}
	return api.Item{Kind: api.ItemList, L: l}, api.OK
}
