package index

import (
	"lockbox/api"
	"lockbox/digest"
	"lockbox/tree"
)

// Prove is a proof of a tag: its row, or those next to where it would stand, as far as there are any.
func (x Index) Prove(tag string) api.IndexProof {
	from, is := x.find(tag)
	to := min(from+1, len(x.rows))
	if !is {
		from = max(from-1, 0)
	}
	p := api.IndexProof{Size: len(x.rows)}
	digests := x.digests()
	for at := from; at < to; at++ {
		way, _ := tree.Way(digests, at)
		p.Rows = append(p.Rows, api.RowProof{At: at, Row: own(x.rows[at]), Way: way})
	}
	return p
}

// shows tells whether the rows of a proof are as they must be for a tag.
func shows(tag string, p api.IndexProof) bool {
	switch len(p.Rows) {
	case 0:
		return p.Size == 0
	case 1:
		r := p.Rows[0]
		return tag == r.Row.Tag || tag < r.Row.Tag && r.At == 0 || tag > r.Row.Tag && r.At == p.Size-1
	case 2:
		a, b := p.Rows[0], p.Rows[1]
		return b.At == a.At+1 && a.Row.Tag < tag && tag < b.Row.Tag
	}
	return false
}

// mayProve tells whether a row is one that an index may have.
func mayProve(r api.Row) bool {
	return len(r.Tag) == api.DigestBytes && r.Count >= 1 && r.Count <= api.MaxLeaves && r.Last >= 0 && r.Last < api.MaxLeaves
}

// summed are the texts that are summed for a row of a proof, that of the root as the last one; none, if the row leads nowhere.
func summed(size int, r api.RowProof) []string {
	s, e := rowText(r.Row)
	if e != api.OK {
		return nil
	}
	root, nodes, e := tree.Climb(size, r.At, tree.Leaf(s), r.Way)
	if e != api.OK {
		return nil
	}
	texts := append(tree.Texts([]string{s}), nodes...)
	return append(texts, rootText(size, root))
}

// leads tells whether a row of a proof leads to a root.
func leads(root string, size int, r api.RowProof) bool {
	texts := summed(size, r)
	return len(texts) > 0 && digest.Sum(texts[len(texts)-1]) == root
}

// Verify is a tag's row, by a proof.
func Verify(root, tag string, p api.IndexProof) (row api.Row, is bool, e api.Errno) {
	if !shows(tag, p) || p.Size == 0 && root != (Index{}).Root() {
		return api.Row{}, false, api.ErrProof
	}
	for _, r := range p.Rows {
		if !mayProve(r.Row) || !leads(root, p.Size, r) {
			return api.Row{}, false, api.ErrProof
		}
	}
	if len(p.Rows) == 1 && p.Rows[0].Row.Tag == tag {
		return own(p.Rows[0].Row), true, api.OK
	}
	return api.Row{}, false, api.OK
}

// ProofTexts are the texts that are summed for a proof.
func ProofTexts(p api.IndexProof) []string {
	if p.Size == 0 && len(p.Rows) == 0 {
		return []string{Index{}.rootText()}
	}
	var texts []string
	for _, r := range p.Rows {
		texts = append(texts, summed(p.Size, r)...)
	}
	return texts
}
