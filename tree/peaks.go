package tree

import (
	"slices"
	"strings"
)

// Peaks are the roots of the whole trees of which a log is made, the greatest first.
type Peaks struct {
	size  int
	roots []string // one for each bit 1 of the size
}

// With is one digest more. Append can't write behind a list that is cut with its capacity, so what went on from p stays as it is.
func (p Peaks) With(d string) Peaks {
	root, kept := strings.Clone(d), len(p.roots)
	for n := p.size; n%2 == 1; n /= 2 {
		kept--
		root = Node(p.roots[kept], root)
	}
	return Peaks{size: p.size + 1, roots: append(p.roots[:kept:kept], root)}
}

// Root is the root of all.
func (p Peaks) Root() string {
	last := max(len(p.roots)-1, 0)
	root := Root(p.roots[last:])
	for _, peak := range slices.Backward(p.roots[:last]) {
		root = Node(peak, root)
	}
	return root
}

// Size is how many digests there are.
func (p Peaks) Size() int { return p.size }
