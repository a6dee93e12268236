package layout

import (
	"aumbry/api"
	"aumbry/caps"
	"aumbry/mss"
	"aumbry/rs"
	"aumbry/tree"
)

// RightShare tells the layout of a share for which a file's capability vouches; false: it vouches for none such.
func RightShare(c api.Cap, s api.Share) (api.Ueb, bool) {
	u, ok := vouched(c, s.Ueb)
	// Check refuses a Num that is none of N as well.
	if !ok || !blocksFit(u, s.Blocks) || !tree.Check(u.Shares, u.N, s.Num, ShareLeaf(s), s.Proof) {
		return api.Ueb{}, false
	}
	return u, true
}

// vouched tells the layout that b is, if c is a file's capability and vouches for it.
func vouched(c api.Cap, b []byte) (api.Ueb, bool) {
	isFile := c.Kind == api.FileRead || c.Kind == api.FileVerify
	if !isFile || !caps.Valid(c) || Print(b) != c.Fp {
		return api.Ueb{}, false
	}
	u, ok := Unpack(b)
	return u, ok && u.K == c.K && u.N == c.N && u.Size == c.Size
}

// blocksFit says whether there is a block for each segment, as long as a share of that.
func blocksFit(u api.Ueb, blocks [][]byte) bool {
	shares, err := rs.New(u.K, u.N)
	if err != api.OK {
		return false
	}
	left := u.Size
	for _, block := range blocks {
		// Behind the last segment there is nothing left: no block stands there.
		if left <= 0 || len(block) != shares.Length(min(left, u.Seg)) {
			return false
		}
		left -= u.Seg
	}
	return left <= 0
}

// RightPiece tells whether fp vouches for a piece: its version is signed under fp, and it is a share of that version.
func RightPiece(fp api.Hash, p api.Piece) bool {
	v := p.Version
	shares, err := rs.New(v.K, v.N)
	if err != api.OK || len(p.Block) != shares.Length(v.Size) {
		return false
	}
	// Check refuses a Num that is none of N as well.
	return mss.Verify(fp, PackVersion(v), p.Sig) && tree.Check(v.Root, v.N, p.Num, tree.Leaf(p.Block), p.Proof)
}
