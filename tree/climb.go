package tree

import (
	"math/bits"
	"slices"
	"strings"

	"lockbox/api"
	"lockbox/digest"
)

func isNoDigest(s string) bool { return len(s) != api.DigestBytes }

// climbed is where a way led: the root, the texts that were summed for it, and those of the way's digests that stood to the left.
type climbed struct {
	root  string
	texts []string
	left  []string
}

func (c *climbed) join(a, b string) {
	text := nodeText(a, b)
	c.texts = append(c.texts, text)
	c.root = digest.Sum(text)
}

// climb goes up from the node at a place of a level on which last is the last place. It tells, too, whether the way has as many digests as it must.
func climb(at, last int, node string, way []string) (c climbed, ok bool) {
	c.root = node
level:
	switch {
	case last == 0:
		return c, len(way) == 0
	case at == last && at%2 == 0:
		// nothing stands beside it, so it is a node of the next level, too
	case len(way) == 0:
		return climbed{}, false
	case at%2 == 0:
		c.join(c.root, way[0])
		way = way[1:]
	default:
		c.join(way[0], c.root)
		c.left = append(c.left, way[0])
		way = way[1:]
	}
	at, last = at/2, last/2
	goto level
}

// Climb is the root that a way leads to.
func Climb(n, i int, d string, way []string) (root string, texts []string, e api.Errno) {
	if n < 1 || n > api.MaxLeaves || i < 0 || i >= n || isNoDigest(d) || slices.ContainsFunc(way, isNoDigest) {
		return "", nil, api.ErrArg
	}
	c, ok := climb(i, n-1, d, way)
	if !ok {
		return "", nil, api.ErrProof
	}
	return strings.Clone(c.root), c.texts, api.OK
}

// Stands tells whether a digest stands at a place.
func Stands(root string, n, i int, d string, way []string) bool {
	led, _, e := Climb(n, i, d, way)
	return e == api.OK && led == root
}

// Cross is the root that a bridge leads to.
func Cross(m, n int, old string, bridge []string) (root string, texts []string, e api.Errno) {
	if m < 0 || m > n || n > api.MaxLeaves || isNoDigest(old) || slices.ContainsFunc(bridge, isNoDigest) {
		return "", nil, api.ErrArg
	}
	switch {
	case m > 0 && m < n:
		return cross(m, n, old, bridge)
	case len(bridge) > 0 || m == 0 && old != Root(nil):
		return "", nil, api.ErrProof
	case m == 0:
		return "", nil, api.OK
	}
	return strings.Clone(old), nil, api.OK
}

// cross climbs twice from the greatest node that ends the first m: to the root of all, and, by what stands to the left alone, to that of the first m.
func cross(m, n int, old string, bridge []string) (root string, texts []string, e api.Errno) {
	level := bits.TrailingZeros(uint(m))
	at, last := m>>level-1, (n-1)>>level
	node := old
	if at > 0 { // else that node is the first m themselves, and no bridge tells it
		if len(bridge) == 0 {
			return "", nil, api.ErrProof
		}
		node, bridge = bridge[0], bridge[1:]
	}
	whole, ok := climb(at, last, node, bridge)
	if !ok {
		return "", nil, api.ErrProof
	}
	first, _ := climb(at, at, node, whole.left) // these are just its way among the first m
	if first.root != old {
		return "", nil, api.ErrProof
	}
	return whole.root, append(first.texts, whole.texts...), api.OK
}

// Begins tells whether a log is the beginning of another one.
func Begins(old string, m int, root string, n int, bridge []string) bool {
	led, _, e := Cross(m, n, old, bridge)
	return e == api.OK && (m == 0 || led == root)
}
