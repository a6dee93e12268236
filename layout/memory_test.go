package layout_test

import (
	"bytes"
	"fmt"
	"testing"

	"aumbry/api"
	"aumbry/layout"
)

// R4

// spoil overwrites a list and what lies behind its length in its memory.
func spoil(b []byte) {
	b = b[:cap(b)]
	for i := range b {
		b[i] ^= 0x55
	}
}

func spoilHashes(l []api.Hash) {
	l = l[:cap(l)]
	for i := range l {
		l[i][i%32] ^= 0x55
	}
}

func spoilLists(l [][]byte) {
	l = l[:cap(l)]
	for i := range l {
		spoil(l[i])
		l[i] = []byte("spoilt")
	}
}

// within hands out a list that lies within other memory, and all of that.
func within(b []byte, tail int) (part, all []byte) {
	all = append(append([]byte("ahead"), b...), bytesOf(tail, 77)...)
	return all[5 : 5+len(b)], all
}

func hashesWithin(l []api.Hash, tail int) (part, all []api.Hash) {
	all = append(append(hashRow(2, 77), l...), hashRow(tail, 78)...)
	return all[2 : 2+len(l)], all
}

// Where a list of bytes lies counts for nothing, and it stays as it is; what was told does not follow it.
func TestMemoryOfBytes(t *testing.T) {
	share := api.Share{Num: 3, Ueb: []byte("layout"), Proof: hashRow(2, 1), Blocks: [][]byte{[]byte("one"), nil, []byte("three")}}
	for i, b := range []string{otherPack(uebOf(3, 10, 777)), otherPackShare(share), otherPackVersion(versionOf(5, 3, 10, 777)), otherPackPiece(pieceOf(3, 2))} {
		f := forms()[i]
		for _, of := range []string{b, b[:len(b)-1], b + "x", ""} {
			for _, tail := range []int{0, 1, 3000} {
				part, all := within([]byte(of), tail)
				before := bytes.Clone(all)
				is(t, fmt.Sprintf("%s with %d bytes behind", f.name, tail), f.unpack(part), f.other(of))
				layout.Print(part)
				if !bytes.Equal(all, before) {
					t.Errorf("%s or Print changes what is handed in, or what is behind it", f.name)
				}
			}
		}
	}
	part, all := within([]byte("ueb"), 3)
	got := layout.Print(part)
	spoil(all)
	is(t, "Print of bytes within others", raw(got), raw(tagged("ueb", "ueb")))
}

func TestMemoryOfUnpackShare(t *testing.T) {
	for _, s := range sharesThatMayBe() {
		b := layout.PackShare(s)
		before := bytes.Clone(b)
		got, _ := layout.UnpackShare(b)
		again, _ := layout.UnpackShare(b)
		want := showShare(s)
		spoil(again.Ueb)
		spoilHashes(again.Proof)
		spoilLists(again.Blocks)
		is(t, "UnpackShare, and spoilt what was told then", showShare(got), want)
		if !bytes.Equal(b, before) {
			t.Error("UnpackShare tells what was handed in")
		}
		spoil(b)
		is(t, "UnpackShare, and spoilt what was handed in", showShare(got), want)
		// No two lists of one answer share any memory: what is behind one of them is not another.
		_ = append(append([]byte{}, got.Ueb...), 1)
		for i, block := range got.Blocks {
			kept := bytes.Clone(block)
			spoil(block)
			copy(block, kept)
			is(t, fmt.Sprintf("UnpackShare, and spoilt what is behind block %d", i), showShare(got), want)
		}
		kept := bytes.Clone(got.Ueb)
		spoil(got.Ueb)
		copy(got.Ueb, kept)
		is(t, "UnpackShare, and spoilt what is behind the layout", showShare(got), want)
	}
}

func TestMemoryOfUnpackPiece(t *testing.T) {
	for _, p := range []api.Piece{pieceOf(3, 0), pieceOf(15, 4)} {
		b := layout.PackPiece(p)
		before := bytes.Clone(b)
		got, _ := layout.UnpackPiece(b)
		again, _ := layout.UnpackPiece(b)
		want := showPiece(p)
		for _, l := range [][]api.Hash{again.Sig.Values, again.Sig.Proof, again.Proof} {
			spoilHashes(l)
		}
		spoil(again.Block)
		is(t, "UnpackPiece, and spoilt what was told then", showPiece(got), want)
		if !bytes.Equal(b, before) {
			t.Error("UnpackPiece tells what was handed in")
		}
		spoil(b)
		is(t, "UnpackPiece, and spoilt what was handed in", showPiece(got), want)
		for _, l := range [][]api.Hash{got.Sig.Values, got.Sig.Proof, got.Proof} {
			behind := l[len(l):cap(l)]
			for i := range behind {
				behind[i] = api.Hash{1}
			}
			is(t, "UnpackPiece, and spoilt what is behind one of its lists", showPiece(got), want)
		}
	}
}

// shareWithin tells a share each list of which lies within other memory; and a look at all of that.
func shareWithin(s api.Share, tail int) (api.Share, func() string) {
	var all [][]byte
	part := func(b []byte) []byte {
		b, whole := within(b, tail)
		all = append(all, whole)
		return b
	}
	other := api.Share{Num: s.Num, Ueb: part(s.Ueb)}
	var proof []api.Hash
	other.Proof, proof = hashesWithin(s.Proof, tail)
	lists := [][]byte{[]byte("ahead")}
	for _, block := range s.Blocks {
		lists = append(lists, part(block))
	}
	for i := range tail {
		lists = append(lists, bytesOf(i, 5))
	}
	other.Blocks = lists[1 : 1+len(s.Blocks)]
	return other, func() string { return fmt.Sprintf("%x %x %x", all, proof, lists) }
}

func TestMemoryOfShares(t *testing.T) {
	f := fileOf(3, 5, 150, 20)
	for _, tail := range []int{0, 1, 40} {
		for _, from := range append(sharesThatMayBe(), f.shares...) {
			s, look := shareWithin(from, tail)
			before := look()
			b := layout.PackShare(s)
			is(t, "PackShare of lists within others", string(b), otherPackShare(from))
			is(t, "ShareLeaf of lists within others", raw(layout.ShareLeaf(s)), raw(otherShareLeaf(from)))
			is(t, "RightShare of lists within others", rightShare(f.c, s), rightShareByOther(f.c, from))
			again := layout.PackShare(s)
			spoil(again)
			is(t, "PackShare, and spoilt what was told then", string(b), otherPackShare(from))
			is(t, "what was handed in", look(), before)
			spoil(s.Ueb)
			spoilHashes(s.Proof)
			spoilLists(s.Blocks)
			is(t, "PackShare, and spoilt what was handed in", string(b), otherPackShare(from))
		}
	}
}

func TestMemoryOfPieces(t *testing.T) {
	slot := slotsOf(t, 2, 3, 40, 20, 2)
	for _, tail := range []int{0, 1, 40} {
		for _, from := range append(slot.pieces, pieceOf(1, 1), api.Piece{}) {
			p := from
			values, allValues := hashesWithin(from.Sig.Values, tail)
			beside, allBeside := hashesWithin(from.Sig.Proof, tail)
			proof, allProof := hashesWithin(from.Proof, tail)
			block, allBlock := within(from.Block, tail)
			p.Sig.Values, p.Sig.Proof, p.Proof, p.Block = values, beside, proof, block
			look := func() string { return fmt.Sprintf("%x %x %x %x", allValues, allBeside, allProof, allBlock) }
			before := look()
			b := layout.PackPiece(p)
			is(t, "PackPiece of lists within others", string(b), otherPackPiece(from))
			if layout.RightPiece(slot.fp, p) != otherRightPiece(slot.fp, from) {
				t.Error("RightPiece of lists within others")
			}
			again := layout.PackPiece(p)
			spoil(again)
			is(t, "PackPiece, and spoilt what was told then", string(b), otherPackPiece(from))
			is(t, "what was handed in", look(), before)
			for _, l := range [][]api.Hash{values, beside, proof} {
				spoilHashes(l)
			}
			spoil(block)
			is(t, "PackPiece, and spoilt what was handed in", string(b), otherPackPiece(from))
		}
	}
}

// What is packed of a layout or of a version is new memory each time.
func TestMemoryOfPacks(t *testing.T) {
	u, v := uebOf(3, 10, 777), versionOf(5, 3, 10, 777)
	a, b := layout.Pack(u), layout.PackVersion(v)
	spoil(layout.Pack(u))
	spoil(layout.PackVersion(v))
	is(t, "Pack, and spoilt what was told then", string(a), otherPack(u))
	is(t, "PackVersion, and spoilt what was told then", string(b), otherPackVersion(v))
}

// A Lit that counts for nothing is neither changed nor kept, and what is behind it is not read.
func TestMemoryOfCaps(t *testing.T) {
	f := fileOf(3, 5, 150, 21)
	lit, all := within(nil, 40)
	before := bytes.Clone(all)
	f.c.Lit = lit
	takeShare(t, "an empty Lit within other memory", f.c, f.shares[2], f.u)
	if !bytes.Equal(all, before) {
		t.Error("RightShare changes what is behind a Lit")
	}
}
