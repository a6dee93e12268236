package layout_test

import (
	"bytes"
	"fmt"
	"slices"
	"strconv"
	"testing"

	"aumbry/api"
	"aumbry/layout"
	"aumbry/mss"
)

// P14.4: RightPiece

// A slot is its print and one version's pieces.
type slot struct {
	fp     api.Hash
	pieces []api.Piece
}

// signed signs a version's bytes with a leaf of the tree of a height.
func signed(t *testing.T, height, leaf int, v api.Version) (api.Hash, api.Sig) {
	t.Helper()
	fp, err := mss.Print(keyOf(50), height)
	if err != api.OK {
		t.Fatal("no print", err)
	}
	sig, err := mss.Sign(keyOf(50), height, leaf, []byte(otherPackVersion(v)))
	if err != api.OK {
		t.Fatal("no signature", err)
	}
	return fp, sig
}

// slotOf hangs blocks under a version of these numbers, and signs that.
func slotOf(t *testing.T, v api.Version, blocks [][]byte, height, leaf int) slot {
	t.Helper()
	leaves := leavesOf(blocks)
	v.Root = above(leaves)
	fp, sig := signed(t, height, leaf, v)
	s := slot{fp: fp}
	for i, block := range blocks {
		s.pieces = append(s.pieces, api.Piece{Num: i, Version: v, Sig: sig, Proof: beside(leaves, i), Block: block})
	}
	return s
}

// someBlocks tells n blocks of one length.
func someBlocks(n, length, seed int) [][]byte {
	var l [][]byte
	for i := range n {
		l = append(l, bytesOf(length, seed+i))
	}
	return l
}

// slotsOf tells a slot whose pieces' bytes are any.
func slotsOf(t *testing.T, k, n, size, seed, height int) slot {
	t.Helper()
	return slotOf(t, versionOf(seed+1, k, n, size), someBlocks(n, lengthOf(size, k), seed), height, (1<<height)-1)
}

func clonePiece(p api.Piece) api.Piece {
	p.Sig.Values, p.Sig.Proof = slices.Clone(p.Sig.Values), slices.Clone(p.Sig.Proof)
	p.Proof, p.Block = slices.Clone(p.Proof), bytes.Clone(p.Block)
	return p
}

// holdPiece holds whether a piece is right.
func holdPiece(t *testing.T, why string, fp api.Hash, p api.Piece, want bool) {
	t.Helper()
	if otherRightPiece(fp, p) != want {
		t.Fatalf("%s: the other maker says %v", why, !want)
	}
	if layout.RightPiece(fp, p) != want {
		t.Errorf("%s: RightPiece(%x, num %d of %s, a block of %d bytes) = %v", why, fp, p.Num, showVersion(p.Version), len(p.Block), !want)
	}
}

func TestRightPiece(t *testing.T) {
	for n := 1; n <= 16; n++ {
		for k := 1; k <= n; k++ {
			size := []int{0, 1, 16, 17, 777, 1023, 1024}[(n*5+k)%7]
			s := slotsOf(t, k, n, size, n, 0)
			for i := range s.pieces {
				if i < 3 || i > n-3 {
					holdPiece(t, "as it was made", s.fp, s.pieces[i], true)
				}
			}
		}
	}
	for _, size := range []int{0, 1, 2, 3, 4, 5, 63, 64, 65, 128, 1000, 1021, 1022, 1023, 1024} {
		s := slotsOf(t, 3, 4, size, size, size%5)
		for _, p := range s.pieces {
			holdPiece(t, "as it was made", s.fp, p, true)
		}
	}
}

// A piece that was packed and is unpacked is right.
func TestRightPieceUnpacked(t *testing.T) {
	s := slotsOf(t, 3, 10, 777, 3, 4)
	for _, p := range s.pieces {
		again, ok := layout.UnpackPiece(layout.PackPiece(p))
		if !ok {
			t.Fatal("no piece")
		}
		holdPiece(t, "unpacked", s.fp, again, true)
	}
}

// pieceChanges calls do with clones of a piece, in each of which one part alone is another.
func pieceChanges(p api.Piece, do func(why string, other api.Piece)) {
	change := func(why string, by func(other *api.Piece)) {
		other := clonePiece(p)
		by(&other)
		do(why, other)
	}
	for _, num := range append(strange(), 0, 1, 2, 3, 4, 5, 6, 7, p.Num-1, p.Num+1, p.Num+8, p.Num+16, p.Num+256, p.Num-256) {
		if num != p.Num {
			change(fmt.Sprint("num ", num), func(other *api.Piece) { other.Num = num })
		}
	}
	for at := range p.Proof {
		change(fmt.Sprintf("the proof's hash %d turned", at), func(other *api.Piece) { other.Proof[at][at] ^= 1 })
		change("a hash fewer in the proof", func(other *api.Piece) { other.Proof = slices.Delete(other.Proof, at, at+1) })
		change("a hash twice in the proof", func(other *api.Piece) { other.Proof = slices.Insert(other.Proof, at, other.Proof[at]) })
	}
	change("a hash more in the proof", func(other *api.Piece) { other.Proof = append(other.Proof, tagged("pad")) })
	for at := range p.Block {
		change(fmt.Sprintf("byte %d of the block turned", at), func(other *api.Piece) { other.Block[at] ^= 4 })
	}
	change("the block longer", func(other *api.Piece) { other.Block = append(other.Block, 0) })
	if len(p.Block) > 0 {
		change("the block shorter", func(other *api.Piece) { other.Block = p.Block[1:] })
		change("no block", func(other *api.Piece) { other.Block = nil })
	}
	versionChanges(p, change)
	sigChanges(p, change)
}

func versionChanges(p api.Piece, change func(why string, by func(other *api.Piece))) {
	for _, by := range []int{-1, 1, -2, 16, 256, 1 << 20, -1 << 20} {
		change(fmt.Sprint("Seq by ", by), func(other *api.Piece) { other.Version.Seq += by })
		change(fmt.Sprint("K by ", by), func(other *api.Piece) { other.Version.K += by })
		change(fmt.Sprint("N by ", by), func(other *api.Piece) { other.Version.N += by })
		change(fmt.Sprint("Size by ", by), func(other *api.Piece) { other.Version.Size += by })
	}
	change("the salt turned", func(other *api.Piece) { other.Version.Salt[7] ^= 1 })
	change("the root turned", func(other *api.Piece) { other.Version.Root[31] ^= 1 })
}

func sigChanges(p api.Piece, change func(why string, by func(other *api.Piece))) {
	for _, by := range []int{-1, 1, 5, -5, 256} {
		change(fmt.Sprint("the height by ", by), func(other *api.Piece) { other.Sig.Height += by })
		change(fmt.Sprint("the leaf by ", by), func(other *api.Piece) { other.Sig.Leaf += by })
	}
	for _, at := range []int{0, 1, 33, 65, 66} {
		change(fmt.Sprintf("value %d turned", at), func(other *api.Piece) { other.Sig.Values[at][at%32] ^= 1 })
	}
	for at := range p.Sig.Proof {
		change("the signature's proof turned", func(other *api.Piece) { other.Sig.Proof[at][at] ^= 1 })
	}
	change("a value fewer", func(other *api.Piece) { other.Sig.Values = other.Sig.Values[1:] })
	change("a value more", func(other *api.Piece) { other.Sig.Values = append(other.Sig.Values, api.Hash{}) })
	change("a hash more in the signature's proof", func(other *api.Piece) { other.Sig.Proof = append(other.Sig.Proof, api.Hash{}) })
	change("no signature", func(other *api.Piece) { other.Sig = api.Sig{} })
}

func TestRightPieceOfSpoiltPieces(t *testing.T) {
	for _, s := range []slot{slotsOf(t, 1, 1, 3, 1, 0), slotsOf(t, 1, 2, 2, 2, 1), slotsOf(t, 3, 5, 40, 3, 2)} {
		for _, p := range s.pieces {
			pieceChanges(p, func(why string, other api.Piece) {
				holdPiece(t, why, s.fp, other, false)
			})
		}
	}
}

func TestRightPieceUnderOtherPrints(t *testing.T) {
	s := slotsOf(t, 2, 3, 40, 4, 2)
	for _, p := range s.pieces {
		for at := range 32 {
			fp := s.fp
			fp[at] ^= 1
			holdPiece(t, "the print turned", fp, p, false)
		}
		for height := range 5 {
			for seed := range 3 {
				fp, err := mss.Print(keyOf(49+seed), height)
				if err != api.OK {
					t.Fatal("no print")
				}
				holdPiece(t, "the print of "+strconv.Itoa(seed), fp, p, seed == 1 && height == 2)
			}
		}
		holdPiece(t, "no print", api.Hash{}, p, false)
		holdPiece(t, "the root as a print", p.Version.Root, p, false)
	}
}

// No piece has a part of another one, or of another version's.
func TestRightPieceOfOtherParts(t *testing.T) {
	s := slotsOf(t, 2, 3, 40, 5, 2)
	later := slotOf(t, versionOf(7, 2, 3, 40), someBlocks(3, 20, 90), 2, 1)
	for _, from := range []slot{s, later} {
		for i, p := range s.pieces {
			for j, other := range from.pieces {
				same := i == j && from.pieces[0].Version == p.Version
				for name, mix := range map[string]func(p *api.Piece){
					"num":     func(p *api.Piece) { p.Num = other.Num },
					"version": func(p *api.Piece) { p.Version = other.Version },
					"proof":   func(p *api.Piece) { p.Proof = other.Proof },
					"block":   func(p *api.Piece) { p.Block = other.Block },
					"sig":     func(p *api.Piece) { p.Sig = other.Sig },
				} {
					mixed := clonePiece(p)
					mix(&mixed)
					unmixed := same || name == "num" && i == j || from.pieces[0].Version == p.Version && (name == "version" || name == "sig")
					holdPiece(t, "with another's "+name, s.fp, mixed, unmixed)
				}
				holdPiece(t, "another whole", s.fp, other, true)
			}
		}
	}
	// The signature of what is no version's bytes, or of its root alone.
	for _, m := range [][]byte{nil, []byte("message"), s.pieces[0].Version.Root[:], s.pieces[0].Block} {
		p := clonePiece(s.pieces[0])
		sig, err := mss.Sign(keyOf(50), 2, 3, m)
		if err != api.OK {
			t.Fatal("no signature")
		}
		p.Sig = sig
		holdPiece(t, "the signature of another message", s.fp, p, false)
	}
}

// Pieces of another form than their version's, that hang rightly and are signed.
func TestRightPieceOfOtherForms(t *testing.T) {
	for _, v := range []api.Version{versionOf(1, 1, 1, 1), versionOf(2, 3, 5, 40), versionOf(3, 2, 2, 1024), versionOf(4, 16, 16, 17), versionOf(5, 2, 3, 0)} {
		length := lengthOf(v.Size, v.K)
		for _, other := range []int{0, length - 1, length, length + 1, 2 * length, v.Size, 64} {
			s := slotOf(t, v, someBlocks(v.N, max(other, 0), 1), 0, 0)
			holdPiece(t, fmt.Sprintf("a block of %d bytes", other), s.fp, s.pieces[0], max(other, 0) == length)
		}
	}
}

// There are no pieces behind the last one, though the tree has places for them.
func TestRightPieceBehindTheLast(t *testing.T) {
	for _, n := range []int{1, 3, 5, 6, 7, 9, 15} {
		s := slotOf(t, versionOf(1, 1, n, 10), someBlocks(len(filled(make([]api.Hash, n))), 10, 1), 0, 0)
		for i, p := range s.pieces {
			holdPiece(t, fmt.Sprint("piece ", i), s.fp, p, i < n)
		}
	}
}

// onePiece tells piece i alone of a version of these numbers whose blocks are of that length; n below 1 is hung as 1.
func onePiece(t *testing.T, k, n, size, length, i int) (api.Hash, api.Piece) {
	t.Helper()
	blocks := someBlocks(max(n, 1), length, 3)
	leaves := leavesOf(blocks)
	v := versionOf(1, k, n, size)
	v.Root = above(leaves)
	fp, sig := signed(t, 0, 0, v)
	return fp, api.Piece{Num: i, Version: v, Sig: sig, Proof: beside(leaves, i), Block: blocks[i]}
}

// holdLengths holds of piece i whose blocks are as long as they are to be, or by one longer or shorter, whether it is right.
func holdLengths(t *testing.T, k, n, size, length, i int) {
	t.Helper()
	for by := -1; by <= 1; by++ {
		if length+by < 0 {
			continue
		}
		fp, p := onePiece(t, k, n, size, length+by, i)
		holdPiece(t, fmt.Sprintf("piece %d, %d of %d, size %d, a block of %d bytes", i, k, n, size, length+by), fp, p, by == 0)
	}
}

// A piece is right though there is no code of K of N: K is above N, or N (and K) above MaxShares.
func TestRightPieceOfNoCode(t *testing.T) {
	for _, of := range [][2]int{
		{2, 1}, {3, 1}, {3, 2}, {5, 4}, {16, 1}, {16, 15}, {17, 1}, {17, 16}, {255, 16}, {256, 3}, {257, 2},
		{1, 17}, {2, 17}, {16, 17}, {17, 17}, {18, 17}, {17, 20}, {1, 32}, {33, 33}, {7, 128}, {1, 255}, {256, 255}, {3, 256}, {256, 256}, {257, 256},
		{65536, 5}, {1 << 31, 2}, {1 << 40, 2}, {1 << 62, 18}, {1<<63 - 1, 1}, {1<<63 - 1, 20},
	} {
		k, n := of[0], of[1]
		for _, size := range []int{0, 1, 34, 1024} {
			holdLengths(t, k, n, size, lengthOf(size, k), n-1)
		}
		holdLengths(t, k, n, 40, lengthOf(40, k), 0)
		holdLengths(t, k, n, 41, lengthOf(41, k), n/2)
	}
}

// There is no length where K is below 1, there are no pieces where N is, and there is no way up from one of more than 256 leaves.
func TestRightPieceOfNoLengthOrLeaf(t *testing.T) {
	for _, of := range [][2]int{{0, 1}, {0, 0}, {-1, 1}, {0, 16}, {-2, 16}, {-16, 17}, {1, 0}, {1, -1}, {3, -1}, {-1, -1}, {1, 257}, {256, 257}, {257, 257}, {3, 512}} {
		k, n := of[0], of[1]
		for _, size := range []int{-1, 0, 1, 34} {
			for _, length := range []int{0, 1, 34, lengthOf(size, max(k, 1))} {
				fp, p := onePiece(t, k, n, size, length, 0)
				holdPiece(t, fmt.Sprintf("%d of %d, size %d, a block of %d bytes", k, n, size, length), fp, p, false)
			}
		}
	}
}

// Spoilt pieces are not right either where there is no code of K of N.
func TestRightPieceOfNoCodeSpoilt(t *testing.T) {
	for _, of := range [][2]int{{3, 2}, {17, 18}} {
		fp, p := onePiece(t, of[0], of[1], 40, lengthOf(40, of[0]), of[1]-1)
		holdPiece(t, "as it was made", fp, p, true)
		pieceChanges(p, func(why string, other api.Piece) {
			holdPiece(t, why, fp, other, false)
		})
		holdPiece(t, "no print", api.Hash{}, p, false)
	}
	// Nor are there pieces behind the last one.
	for _, of := range [][2]int{{5, 3}, {1, 17}, {40, 33}} {
		s := slotOf(t, versionOf(1, of[0], of[1], 10), someBlocks(len(filled(make([]api.Hash, of[1]))), lengthOf(10, of[0]), 1), 0, 0)
		for i, p := range s.pieces {
			holdPiece(t, fmt.Sprintf("piece %d, %d of %d", i, of[0], of[1]), s.fp, p, i < of[1])
		}
	}
}

// Where Size or K is far more than there may be, and where Size is below 0.
func TestRightPieceOfFarSizes(t *testing.T) {
	const most = 1<<63 - 1
	for _, of := range [][3]int{ // size, K, and the length
		{-1, 1, 0}, {-1, 3, 0}, {-34, 17, 0}, {-1 << 63, 1, 0}, {-1 << 63, most, 0},
		{0, most, 0}, {1, most, 1}, {1025, 2, 513}, {1025, 1025, 1}, {1026, 1025, 2}, {1 << 20, 1 << 10, 1 << 10},
		{1 << 31, 1 << 31, 1}, {1<<31 + 1, 1 << 31, 2}, {1 << 32, 1 << 30, 4}, {most, most, 1}, {most, most - 1, 2}, {most, 1 << 62, 2}, {1 << 62, 1 << 62, 1}, {1<<62 + 1, 1 << 62, 2}, {most, 1 << 58, 32},
	} {
		for _, n := range []int{1, 2, 17} {
			holdLengths(t, of[1], n, of[0], of[2], n-1)
		}
	}
}

func TestRightPieceOfNumbersBelow(t *testing.T) {
	s := slotsOf(t, 2, 3, 40, 6, 0)
	for _, n := range strange() {
		if n > 0 {
			continue
		}
		for name, set := range map[string]func(p *api.Piece){
			"Num":    func(p *api.Piece) { p.Num = n },
			"Seq":    func(p *api.Piece) { p.Version.Seq = n },
			"K":      func(p *api.Piece) { p.Version.K = n },
			"N":      func(p *api.Piece) { p.Version.N = n },
			"Size":   func(p *api.Piece) { p.Version.Size = n },
			"Height": func(p *api.Piece) { p.Sig.Height = n },
			"Leaf":   func(p *api.Piece) { p.Sig.Leaf = n },
		} {
			p := clonePiece(s.pieces[0])
			set(&p)
			holdPiece(t, fmt.Sprintf("%s %d", name, n), s.fp, p, false)
		}
	}
	holdPiece(t, "nothing", api.Hash{}, api.Piece{}, false)
	// Not below, but far above: no block is so long.
	for _, size := range []int{1<<31 - 1, 1 << 32, 1<<32 + 40, 1 << 62, 1<<63 - 1} {
		p := clonePiece(s.pieces[0])
		p.Version.Size = size
		holdPiece(t, fmt.Sprint("Size ", size), s.fp, p, false)
	}
}
