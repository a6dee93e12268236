package layout

import (
	"aumbry/api"
	"aumbry/caps"
	"aumbry/mss"
	"aumbry/tree"
)

// RightShare tells the layout of a share for which a file's capability vouches; false: it vouches for none such.
func RightShare(c api.Cap, s api.Share) (api.Ueb, bool) {
	u, ok := vouched(c, s.Ueb)
	// Check refuses a Num that is none of N as well.
	if !ok || !blocksFit(u, s.Blocks) || !tree.Check(u.Shares, u.N, s.Num, ShareLeaf(s), s.Proof) {
		return api.Ueb{}, false
	}
	return u, true
}

// vouched tells the layout that b is, if c is a file's capability and vouches for it.
func vouched(c api.Cap, b []byte) (api.Ueb, bool) {
	isFile := c.Kind == api.FileRead || c.Kind == api.FileVerify
	if !isFile || !caps.Valid(c) || Print(b) != c.Fp {
		return api.Ueb{}, false
	}
	u, ok := Unpack(b)
	return u, ok && u.K == c.K && u.N == c.N && u.Size == c.Size
}

// blocksFit says whether there is a block for each segment, as long as a share of that.
func blocksFit(u api.Ueb, blocks [][]byte) bool {
	left := u.Size
	for _, block := range blocks {
		// Behind the last segment there is nothing left: no block stands there.
		if left <= 0 || len(block) != shareLength(min(left, u.Seg), u.K) {
			return false
		}
		left -= u.Seg
	}
	return left <= 0
}

// RightPiece tells whether fp vouches for a piece: its version is signed under fp, and under that hangs its block, as long as a share.
// No more is asked of K and N than that: a version may be signed of which there is no code.
func RightPiece(fp api.Hash, p api.Piece) bool {
	v := p.Version
	if v.K < 1 || len(p.Block) != shareLength(v.Size, v.K) {
		return false
	}
	// Check refuses a Num that is none of N as well.
	return mss.Verify(fp, PackVersion(v), p.Sig) && tree.Check(v.Root, v.N, p.Num, tree.Leaf(p.Block), p.Proof)
}

// shareLength tells how long a share is of so many bytes, k of which suffice; k is at least 1.
// It is what rs.Length tells, which only a code can be asked; the length hangs on k alone, and stands also where no code has that k.
func shareLength(size, k int) int {
	if size <= 0 {
		return 0
	}
	// Not size + k - 1 over k: that sum may overflow.
	return (size-1)/k + 1
}
