package tree_test

import (
	"crypto/sha256"
	"fmt"
	"slices"
	"testing"

	"lockbox/api"
	"lockbox/tree"
)

// The second reckoning: by the document's words, from the root downwards.

func sum(s string) string {
	d := sha256.Sum256([]byte(s))
	return string(d[:])
}

func node(a, b string) string { return sum("\x01" + a + b) }

// power is the greatest power of 2 below n.
func power(n int) int {
	k := 1
	for 2*k < n {
		k *= 2
	}
	return k
}

func rootOf(l []string) string {
	switch len(l) {
	case 0:
		return sum("")
	case 1:
		return l[0]
	}
	k := power(len(l))
	return node(rootOf(l[:k]), rootOf(l[k:]))
}

func wayOf(l []string, i int) []string {
	if len(l) == 1 {
		return nil
	}
	k := power(len(l))
	if i < k {
		return append(wayOf(l[:k], i), rootOf(l[k:]))
	}
	return append(wayOf(l[k:], i-k), rootOf(l[:k]))
}

// bridgeOf is the bridge from m to the number of l, for m from 1 on.
func bridgeOf(l []string, m int, known bool) []string {
	n := len(l)
	k := power(n)
	switch {
	case m == n && known:
		return nil
	case m == n:
		return []string{rootOf(l)}
	case m == k && known:
		return []string{rootOf(l[k:])}
	case m == k:
		return []string{rootOf(l[:k]), rootOf(l[k:])}
	case m < k:
		return append(bridgeOf(l[:k], m, known), rootOf(l[k:]))
	}
	return append(bridgeOf(l[k:], m-k, false), rootOf(l[:k]))
}

// made is a root that is put together, and the texts that were summed for it.
type made struct {
	root  string
	texts []string
}

func (x made) with(a, b string) made {
	text := "\x01" + a + b
	return made{sum(text), append(slices.Clone(x.texts), text)}
}

// climbOf puts together the root of n, taking a way from its end.
func climbOf(n, i int, d string, way []string) (made, bool) {
	if n == 1 {
		return made{root: d}, len(way) == 0
	}
	if len(way) == 0 {
		return made{}, false
	}
	top, way := way[len(way)-1], way[:len(way)-1]
	k := power(n)
	if i < k {
		x, ok := climbOf(k, i, d, way)
		return x.with(x.root, top), ok
	}
	x, ok := climbOf(n-k, i-k, d, way)
	return x.with(top, x.root), ok
}

// crossOf puts together the roots of the first m and of n, for m from 1 on, taking a bridge from its end.
func crossOf(m, n int, known bool, old string, bridge []string) (first, whole made, ok bool) {
	if m == n && known {
		return made{root: old}, made{root: old}, len(bridge) == 0
	}
	if len(bridge) == 0 {
		return made{}, made{}, false
	}
	if m == n {
		return made{root: bridge[0]}, made{root: bridge[0]}, len(bridge) == 1
	}
	top, bridge := bridge[len(bridge)-1], bridge[:len(bridge)-1]
	k := power(n)
	if m <= k {
		first, whole, ok = crossOf(m, k, known, old, bridge)
		return first, whole.with(whole.root, top), ok
	}
	first, whole, ok = crossOf(m-k, n-k, false, old, bridge)
	return first.with(top, first.root), whole.with(top, whole.root), ok
}

// leaves are so many unlike leaves, and their digests.
func leaves(n int) (texts, digests []string) {
	for i := range n {
		texts = append(texts, fmt.Sprint("leaf ", i))
		digests = append(digests, sum("\x00"+texts[i]))
	}
	return texts, digests
}

// roomy is a list behind which there is room, and something stands in it.
func roomy(l []string) []string {
	return append(slices.Clone(l), "behind", "it")[:len(l)]
}

// untouched asks whether a list made by roomy is as it was, and what stands behind it.
func untouched(t *testing.T, l, was []string) {
	t.Helper()
	if !slices.Equal(l, was) || !slices.Equal(l[:len(l)+2][len(l):], []string{"behind", "it"}) {
		t.Fatal("a list that was handed in is another one")
	}
}

// climbs asks whether Climb has an error, and Stands is false.
func climbs(t *testing.T, n, i int, d string, way []string, want api.Errno) {
	t.Helper()
	root, texts, e := tree.Climb(n, i, d, way)
	if e != want || root != "" || len(texts) != 0 {
		t.Errorf("Climb(%d, %d) by %d digests: %.4x, %d texts, %v, not %v", n, i, len(way), root, len(texts), e, want)
	}
	for _, root := range append([]string{"", d, sum("")}, way...) {
		if tree.Stands(root, n, i, d, way) {
			t.Errorf("Stands(%d, %d) by %d digests, where Climb answers %v", n, i, len(way), want)
		}
	}
}

// crosses asks whether Cross has an error, and Begins is false.
func crosses(t *testing.T, m, n int, old string, bridge []string, want api.Errno) {
	t.Helper()
	root, texts, e := tree.Cross(m, n, old, bridge)
	if e != want || root != "" || len(texts) != 0 {
		t.Errorf("Cross(%d, %d) by %d digests: %.4x, %d texts, %v, not %v", m, n, len(bridge), root, len(texts), e, want)
	}
	for _, root := range append([]string{"", old, sum("")}, bridge...) {
		if tree.Begins(old, m, root, n, bridge) {
			t.Errorf("Begins(%d, %d) by %d digests, where Cross answers %v", m, n, len(bridge), want)
		}
	}
}
