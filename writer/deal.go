package writer

import (
	"strings"

	"lockbox/api"
	"lockbox/canon"
	"lockbox/mac"
	"lockbox/seal"
	"lockbox/shamir"
)

const (
	keyBytes  = 32
	headLabel = "head"
	tagLabel  = "tag"
	wrapLabel = "wrap"
)

// Wrap is the key of an agent with a share.
func Wrap(s api.Share) string {
	text := shamir.Text(s)
	if text == "" {
		return ""
	}
	return mac.Key(text, wrapLabel, s.X)
}

// Deal deals a master secret.
func Deal(master string, need, n int, drawn string) (api.Keys, []api.Share, api.Errno) {
	if len(master) != keyBytes {
		return api.Keys{}, nil, api.ErrKey
	}
	if n < 1 || n > api.MaxAgents {
		return api.Keys{}, nil, api.ErrArg
	}
	shares, e := shamir.Split(master, need, n, drawn)
	if e != api.OK {
		return api.Keys{}, nil, e
	}
	k := api.Keys{Head: mac.Key(master, headLabel, 0), Tag: mac.Key(master, tagLabel, 0), Need: need}
	for _, s := range shares {
		k.Wraps = append(k.Wraps, Wrap(s))
	}
	return k, shares, api.OK
}

// isRight tells whether keys are such as are dealt.
func isRight(k api.Keys) bool {
	n := len(k.Wraps)
	if len(k.Head) != keyBytes || len(k.Tag) != keyBytes || n < 1 || n > api.MaxAgents || k.Need < 1 || k.Need > n {
		return false
	}
	for _, wrap := range k.Wraps {
		if len(wrap) != keyBytes {
			return false
		}
	}
	return true
}

// own are the same keys in memory of their own.
func own(k api.Keys) api.Keys {
	other := api.Keys{Head: strings.Clone(k.Head), Tag: strings.Clone(k.Tag), Need: k.Need}
	for _, wrap := range k.Wraps {
		other.Wraps = append(other.Wraps, strings.Clone(wrap))
	}
	return other
}

// Blob is an entry's blob.
func Blob(k api.Keys, number int, plain, random string) (string, api.Errno) {
	switch {
	case !isRight(k):
		return "", api.ErrKey
	case len(plain) > api.MaxEntry:
		return "", api.ErrLong
	case number < 0 || number >= api.MaxLeaves || len(random) != keyBytes*k.Need:
		return "", api.ErrArg
	}
	key := random[:keyBytes]
	shares, _ := shamir.Split(key, k.Need, len(k.Wraps), random[keyBytes:]) // keys that are right can be split so, and what is sealed here is short
	var wrapped []api.Item
	for i, s := range shares {
		t, _ := seal.Seal(k.Wraps[i], number, shamir.Text(s))
		wrapped = append(wrapped, canon.Text(t))
	}
	sealed, _ := seal.Seal(key, number, plain)
	return canon.Encode(canon.List(canon.Text(sealed), canon.List(wrapped...)))
}

// Parts are the sealed text and the sealed shares of an entry's blob.
func Parts(blob string) (sealed string, wrapped []string, e api.Errno) {
	x, e := canon.Decode(blob)
	if e != api.OK || !canon.Shape(x, "tl") {
		return "", nil, api.ErrForm
	}
	for _, y := range x.L[1].L {
		if y.Kind != api.ItemText {
			return "", nil, api.ErrForm
		}
		wrapped = append(wrapped, strings.Clone(y.S))
	}
	return strings.Clone(x.L[0].S), wrapped, api.OK
}
