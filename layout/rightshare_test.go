package layout_test

import (
	"bytes"
	"fmt"
	"slices"
	"testing"

	"aumbry/api"
	"aumbry/layout"
)

// P14.4: RightShare

// A file is its capability, its layout, and its shares.
type file struct {
	c      api.Cap
	u      api.Ueb
	shares []api.Share
}

// hung hangs shares of these blocks under a layout of these numbers, and that under a capability.
func hung(u api.Ueb, blocks [][][]byte) file {
	var leaves []api.Hash
	for _, l := range blocks {
		leaves = append(leaves, above(leavesOf(l)))
	}
	leaves = filled(leaves)
	u.Shares = above(leaves)
	ueb := []byte(otherPack(u))
	f := file{u: u, c: api.Cap{Kind: api.FileRead, Key: keyOf(1), Fp: tagged("ueb", string(ueb)), K: u.K, N: u.N, Size: u.Size}}
	for i, l := range blocks {
		f.shares = append(f.shares, api.Share{Num: i, Ueb: ueb, Proof: beside(leaves, i), Blocks: l})
	}
	return f
}

// blocksOf tells blocks of n shares, of these lengths.
func blocksOf(n, seed int, lengths []int) [][][]byte {
	var all [][][]byte
	for i := range n {
		var l [][]byte
		for j, length := range lengths {
			l = append(l, bytesOf(length, seed+i*100+j))
		}
		all = append(all, l)
	}
	return all
}

// fileOf tells a file whose shares' bytes are any.
func fileOf(k, n, size, seed int) file {
	return hung(uebOf(k, n, size), blocksOf(n, seed, lengths(k, size)))
}

func cloneShare(s api.Share) api.Share {
	s.Ueb, s.Proof = bytes.Clone(s.Ueb), slices.Clone(s.Proof)
	blocks := make([][]byte, len(s.Blocks))
	for i, block := range s.Blocks {
		blocks[i] = bytes.Clone(block)
	}
	s.Blocks = blocks
	return s
}

func rightShare(c api.Cap, s api.Share) string {
	u, ok := layout.RightShare(c, s)
	return said(showUeb(u), ok)
}

// refuseShare holds that no capability vouches for a share.
func refuseShare(t *testing.T, why string, c api.Cap, s api.Share) {
	t.Helper()
	if _, ok := otherRightShare(c, s); ok {
		t.Fatalf("%s: the other maker takes it", why)
	}
	is(t, "RightShare: "+why, rightShare(c, s), said(showUeb(api.Ueb{}), false))
}

// takeShare holds that a capability vouches for a share, and that its layout is told.
func takeShare(t *testing.T, why string, c api.Cap, s api.Share, u api.Ueb) {
	t.Helper()
	if _, ok := otherRightShare(c, s); !ok {
		t.Fatalf("%s: the other maker refuses it", why)
	}
	is(t, "RightShare: "+why, rightShare(c, s), said(showUeb(u), true))
}

// takeAll holds that all shares of a file are right, whichever capability is asked.
func takeAll(t *testing.T, f file) {
	t.Helper()
	for _, s := range f.shares {
		what := fmt.Sprintf("share %d of %s", s.Num, showUeb(f.u))
		takeShare(t, what, f.c, s, f.u)
		verify := f.c
		verify.Kind = api.FileVerify
		takeShare(t, what+", for who verifies", verify, s, f.u)
	}
}

func TestRightShare(t *testing.T) {
	for n := 1; n <= 16; n++ {
		for k := 1; k <= n; k++ {
			for _, size := range []int{1, 63, 64, 65, 130, 1024} {
				takeAll(t, fileOf(k, n, size, size))
			}
		}
	}
	for size := 1; size <= 1024; size++ {
		takeAll(t, fileOf(1+size%3, 3, size, 1))
	}
	for size := 1; size <= 140; size++ {
		takeAll(t, fileOf(5, 5, size, 2))
	}
}

// A share that was packed and is unpacked is right.
func TestRightShareUnpacked(t *testing.T) {
	f := fileOf(3, 10, 777, 3)
	for _, s := range f.shares {
		again, ok := layout.UnpackShare(layout.PackShare(s))
		if !ok {
			t.Fatal("no share")
		}
		takeShare(t, "unpacked", f.c, again, f.u)
	}
}

// changed calls do with clones of a share, in each of which one part alone is another.
func changed(s api.Share, do func(why string, other api.Share)) {
	change := func(why string, by func(other *api.Share)) {
		other := cloneShare(s)
		by(&other)
		do(why, other)
	}
	for _, num := range append(strange(), 0, 1, 2, 3, 4, 5, 6, 7, s.Num-1, s.Num+1, s.Num+8, s.Num+16, s.Num+256, s.Num-256) {
		if num != s.Num {
			change(fmt.Sprint("num ", num), func(other *api.Share) { other.Num = num })
		}
	}
	for at := range s.Ueb {
		change(fmt.Sprintf("byte %d of the layout turned", at), func(other *api.Share) { other.Ueb[at] ^= 1 })
		change(fmt.Sprintf("the layout's first %d bytes", at), func(other *api.Share) { other.Ueb = other.Ueb[:at] })
	}
	change("a byte behind the layout", func(other *api.Share) { other.Ueb = append(other.Ueb, 0) })
	for at := range s.Proof {
		for place := range 32 {
			change(fmt.Sprintf("byte %d of the proof's hash %d turned", place, at), func(other *api.Share) { other.Proof[at][place] ^= 1 })
		}
		change("a hash fewer in the proof", func(other *api.Share) { other.Proof = slices.Delete(other.Proof, at, at+1) })
		change("a hash twice in the proof", func(other *api.Share) { other.Proof = slices.Insert(other.Proof, at, other.Proof[at]) })
	}
	change("a hash more in the proof", func(other *api.Share) { other.Proof = append(other.Proof, tagged("pad")) })
	change("no hash ahead", func(other *api.Share) { other.Proof = slices.Insert(other.Proof, 0, api.Hash{}) })
	if len(s.Proof) > 1 {
		change("the proof turned round", func(other *api.Share) { slices.Reverse(other.Proof) })
	}
	changedBlocks(s, change)
}

func changedBlocks(s api.Share, change func(why string, by func(other *api.Share))) {
	for i, block := range s.Blocks {
		for at := range block {
			change(fmt.Sprintf("byte %d of block %d turned", at, i), func(other *api.Share) { other.Blocks[i][at] ^= 0x20 })
		}
		change(fmt.Sprintf("block %d longer", i), func(other *api.Share) { other.Blocks[i] = append(other.Blocks[i], 0) })
		change(fmt.Sprintf("block %d shorter", i), func(other *api.Share) { other.Blocks[i] = block[:len(block)-1] })
		change(fmt.Sprintf("block %d empty", i), func(other *api.Share) { other.Blocks[i] = nil })
		change(fmt.Sprintf("block %d gone", i), func(other *api.Share) { other.Blocks = slices.Delete(other.Blocks, i, i+1) })
		change(fmt.Sprintf("block %d twice", i), func(other *api.Share) { other.Blocks = slices.Insert(other.Blocks, i, block) })
		change(fmt.Sprintf("an empty block ahead of block %d", i), func(other *api.Share) { other.Blocks = slices.Insert(other.Blocks, i, []byte{}) })
	}
	change("an empty block more", func(other *api.Share) { other.Blocks = append(other.Blocks, nil) })
	change("no blocks", func(other *api.Share) { other.Blocks = nil })
	change("all blocks as one", func(other *api.Share) { other.Blocks = [][]byte{slices.Concat(append(other.Blocks, []byte{1})...)} })
	if len(s.Blocks) > 1 {
		change("the blocks turned round", func(other *api.Share) { slices.Reverse(other.Blocks) })
	}
}

func TestRightShareOfSpoiltShares(t *testing.T) {
	for _, f := range []file{fileOf(1, 1, 1, 4), fileOf(1, 2, 70, 4), fileOf(3, 5, 150, 4), fileOf(2, 3, 128, 4), fileOf(4, 8, 65, 4)} {
		for _, s := range f.shares {
			changed(s, func(why string, other api.Share) {
				refuseShare(t, why, f.c, other)
			})
		}
	}
}

// No share has a part of another one, or of another file's.
func TestRightShareOfOtherParts(t *testing.T) {
	f, g := fileOf(3, 5, 150, 5), fileOf(3, 5, 150, 6)
	for _, from := range []file{f, g} {
		for _, s := range f.shares {
			for _, other := range from.shares {
				for name, mix := range map[string]func(s *api.Share){
					"num":    func(s *api.Share) { s.Num = other.Num },
					"ueb":    func(s *api.Share) { s.Ueb = other.Ueb },
					"proof":  func(s *api.Share) { s.Proof = other.Proof },
					"blocks": func(s *api.Share) { s.Blocks = other.Blocks },
					"block":  func(s *api.Share) { s.Blocks[1] = other.Blocks[1] },
					"last":   func(s *api.Share) { s.Blocks[2] = other.Blocks[2] },
				} {
					mixed := cloneShare(s)
					mix(&mixed)
					is(t, "RightShare with another's "+name, rightShare(f.c, mixed), rightShareByOther(f.c, mixed))
				}
				refuseShare(t, "a share of another file", g.c, s)
			}
		}
	}
}

func rightShareByOther(c api.Cap, s api.Share) string {
	u, ok := otherRightShare(c, s)
	return said(showUeb(u), ok)
}

func TestRightShareOfOtherCaps(t *testing.T) {
	for _, f := range []file{fileOf(3, 5, 150, 7), fileOf(1, 1, 1, 7), fileOf(2, 16, 1024, 7)} {
		s := f.shares[len(f.shares)-1]
		try := func(why string, by func(c *api.Cap)) {
			c := f.c
			by(&c)
			refuseShare(t, why, c, s)
		}
		for _, kind := range append(strange(), 0, 3, 4, 5, 6, 7, 8, 9, 10, 11) {
			try(fmt.Sprint("kind ", kind), func(c *api.Cap) { c.Kind = kind })
			try(fmt.Sprint("kind ", kind, " without numbers"), func(c *api.Cap) { c.Kind, c.K, c.N, c.Size = kind, 0, 0, 0 })
		}
		for _, n := range append(strange(), 0, 1, 2, 3, 4, 5, 6, 16, 150, 149, 151, 777, 1024) {
			if n != f.c.K {
				try(fmt.Sprint("K ", n), func(c *api.Cap) { c.K = n })
			}
			if n != f.c.N {
				try(fmt.Sprint("N ", n), func(c *api.Cap) { c.N = n })
			}
			if n != f.c.Size {
				try(fmt.Sprint("Size ", n), func(c *api.Cap) { c.Size = n })
			}
		}
		for at := range 32 {
			try("the print turned", func(c *api.Cap) { c.Fp[at] ^= 1 })
		}
		try("no print", func(c *api.Cap) { c.Fp = api.Hash{} })
		try("the print of the shares", func(c *api.Cap) { c.Fp = f.u.Shares })
		try("a Lit", func(c *api.Cap) { c.Lit = []byte{0} })
		try("nothing", func(c *api.Cap) { *c = api.Cap{} })
		c := f.c
		c.Key, c.Lit = keyOf(99), []byte{}
		takeShare(t, "another key, and an empty Lit", c, s, f.u)
	}
}

// The print is that of bytes that are no layout, or of one with other numbers: they may hang rightly all the same.
func TestRightShareOfOtherLayouts(t *testing.T) {
	for _, u := range uebsThatMayNot() {
		if u.K < 1 || u.N < 1 || u.N > 32 || u.Size > 2048 {
			continue
		}
		f := hung(u, blocksOf(u.N, 8, lengths(u.K, u.Size)))
		refuseShare(t, "a layout that may not be: "+showUeb(u), f.c, f.shares[0])
	}
	f := fileOf(3, 5, 150, 8)
	whole := string(f.shares[0].Ueb)
	for _, ueb := range []string{"", whole + "\x00", whole[:len(whole)-1], "0" + whole, rows(whole), whole + whole} {
		s, c := cloneShare(f.shares[0]), f.c
		s.Ueb, c.Fp = []byte(ueb), tagged("ueb", ueb)
		refuseShare(t, "bytes that are no layout", c, s)
	}
	// Where the capability's numbers are not the layout's, whichever the blocks are of.
	for _, u := range []api.Ueb{uebOf(2, 5, 150), uebOf(3, 6, 150), uebOf(3, 5, 151), uebOf(3, 5, 149), uebOf(3, 5, 129), uebOf(3, 5, 192)} {
		for _, of := range []api.Ueb{u, f.u} {
			g := hung(u, blocksOf(5, 8, lengths(of.K, of.Size)))
			c := f.c
			c.Fp = g.c.Fp
			refuseShare(t, "other numbers than the capability's", c, g.shares[0])
		}
	}
}

// Shares of another form than their layout's, that hang rightly.
func TestRightShareOfOtherForms(t *testing.T) {
	for _, u := range []api.Ueb{uebOf(3, 5, 150), uebOf(1, 1, 1), uebOf(2, 3, 64), uebOf(2, 4, 128), uebOf(16, 16, 1024), uebOf(5, 7, 65)} {
		right := lengths(u.K, u.Size)
		takeAll(t, hung(u, blocksOf(u.N, 9, right)))
		for i := range right {
			for _, by := range []int{-1, 1, 32, -right[i]} {
				other := slices.Clone(right)
				other[i] = max(other[i]+by, 0)
				f := hung(u, blocksOf(u.N, 9, other))
				refuseShare(t, fmt.Sprintf("blocks of lengths %v under %s", other, showUeb(u)), f.c, f.shares[0])
			}
		}
		for _, other := range [][]int{
			nil, right[1:], right[:len(right)-1], append(slices.Clone(right), 0), append(slices.Clone(right), 1), append(slices.Clone(right), right...),
			append([]int{0}, right...), append([]int{right[0]}, right...),
		} {
			f := hung(u, blocksOf(u.N, 9, other))
			for _, s := range f.shares {
				refuseShare(t, fmt.Sprintf("blocks of lengths %v under %s", other, showUeb(u)), f.c, s)
			}
		}
	}
}

// There are no shares behind the last one, though the tree has places for them.
func TestRightShareBehindTheLast(t *testing.T) {
	for _, n := range []int{1, 3, 5, 6, 7, 9, 15} {
		u := uebOf(1, n, 100)
		f := hung(u, blocksOf(len(filled(make([]api.Hash, n))), 10, lengths(1, 100)))
		for i, s := range f.shares {
			if i < n {
				takeShare(t, fmt.Sprint("share ", i), f.c, s, f.u)
			} else {
				refuseShare(t, fmt.Sprint("share ", i), f.c, s)
			}
		}
		g := fileOf(1, n, 100, 10)
		leaves := make([]api.Hash, 0, 16)
		for _, s := range g.shares {
			leaves = append(leaves, otherShareLeaf(s))
		}
		leaves = filled(leaves)
		for i := n; i < len(leaves); i++ {
			// A share without blocks has the leaf of a pad.
			refuseShare(t, "a pad", g.c, api.Share{Num: i, Ueb: g.shares[0].Ueb, Proof: beside(leaves, i)})
		}
	}
}
