// Package canon is layer 2: see shared/doc/02-canon.md.
package canon

import (
	"math/bits"
	"slices"
	"strings"

	"lockbox/api"
)

// The bytes at the front of a text and of a list; below them stands the length of a number.
const (
	textByte   = 8
	listByte   = 9
	mostNumber = 7 // bytes of a number
)

// Num is a number.
func Num(n int) api.Item { return api.Item{Kind: api.ItemNum, N: n} }

// Text is a text.
func Text(s string) api.Item { return api.Item{Kind: api.ItemText, S: s} }

// List is a list.
func List(l ...api.Item) api.Item { return api.Item{Kind: api.ItemList, L: copied(l)} }

// copied is a list that shares no list with l, however deep.
func copied(l []api.Item) []api.Item {
	var out []api.Item
	if len(l) > 0 {
		out = make([]api.Item, len(l))
	}
	for i, x := range l {
		x.L = copied(x.L)
		out[i] = x
	}
	return out
}

// Check tells whether an item may be.
func Check(x api.Item) bool { return mayBe(x, 0) }

// mayBe tells whether an item may be around which so many lists stand.
func mayBe(x api.Item, around int) bool {
	switch x.Kind {
	case api.ItemNum:
		return x.N >= 0 && x.N <= api.MaxNum && x.S == "" && len(x.L) == 0
	case api.ItemText:
		return x.N == 0 && len(x.S) <= api.MaxText && len(x.L) == 0
	case api.ItemList:
		if x.N != 0 || x.S != "" || len(x.L) > api.MaxItems || around == api.MaxDeep {
			return false
		}
		for _, y := range x.L {
			if !mayBe(y, around+1) {
				return false
			}
		}
		return true
	}
	return false
}

// Same tells whether two items are the same.
func Same(a, b api.Item) bool {
	return a.Kind == b.Kind && a.N == b.N && a.S == b.S && slices.EqualFunc(a.L, b.L, Same)
}

// Encode is an item's bytes.
func Encode(x api.Item) (string, api.Errno) {
	if !Check(x) {
		return "", api.ErrArg
	}
	var b strings.Builder
	put(&b, x)
	if b.Len() > api.MaxText {
		return "", api.ErrLong
	}
	return b.String(), api.OK
}

// put writes an item that may be; of one that turns out too long only a part.
func put(b *strings.Builder, x api.Item) {
	if b.Len() > api.MaxText {
		return
	}
	switch x.Kind {
	case api.ItemNum:
		putNum(b, x.N)
	case api.ItemText:
		b.WriteByte(textByte)
		putNum(b, len(x.S))
		b.WriteString(x.S)
	case api.ItemList:
		b.WriteByte(listByte)
		putNum(b, len(x.L))
		for _, y := range x.L {
			put(b, y)
		}
	}
}

func putNum(b *strings.Builder, n int) {
	size := (bits.Len(uint(n)) + 7) / 8
	b.WriteByte(byte(size))
	for i := size - 1; i >= 0; i-- {
		b.WriteByte(byte(n >> (8 * i)))
	}
}

// Shape tells whether an item is a list of items of some kinds.
func Shape(x api.Item, shape string) bool {
	if x.Kind != api.ItemList || len(x.L) != len(shape) {
		return false
	}
	for i, y := range x.L {
		if !fits(y, shape[i]) {
			return false
		}
	}
	return true
}

func fits(x api.Item, letter byte) bool {
	switch letter {
	case 'n':
		return x.Kind == api.ItemNum
	case 'l':
		return x.Kind == api.ItemList
	case 'd':
		if len(x.S) != api.DigestBytes {
			return false
		}
		fallthrough
	case 't':
		return x.Kind == api.ItemText
	}
	return false
}

// Front is the item at the front of bytes.
func Front(s string) (x api.Item, rest string, e api.Errno) {
	r := reader{s: s}
	x, e = r.item(0)
	if e != api.OK {
		return api.Item{}, "", e
	}
	return x, s[r.at:], api.OK
}

// Decode is the item of bytes.
func Decode(s string) (api.Item, api.Errno) {
	x, rest, e := Front(s)
	if e == api.OK && rest != "" {
		e = api.ErrForm
	}
	if e != api.OK {
		return api.Item{}, e
	}
	return x, api.OK
}
