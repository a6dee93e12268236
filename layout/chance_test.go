package layout_test

import (
	"fmt"
	"math/rand"
	"testing"

	"aumbry/api"
	"aumbry/layout"
)

// Layouts, shares, versions, pieces and bytes drawn by chance, against the other maker.

// near draws a number from least to most, or one beside these, or a strange one.
func near(r *rand.Rand, least, most int) int {
	switch r.Intn(40) {
	case 0:
		return strange()[r.Intn(len(strange()))]
	case 1:
		return least - 1
	case 2:
		return most + 1
	case 3:
		return most
	case 4:
		return least
	}
	return least + r.Intn(most-least+1)
}

// counts draws how many there are of something.
func counts(r *rand.Rand, few, many int) int {
	if r.Intn(20) == 0 {
		return r.Intn(many)
	}
	return r.Intn(few)
}

func drawUeb(r *rand.Rand) api.Ueb {
	u := api.Ueb{N: near(r, 1, 16), Size: near(r, 1, 1024), Seg: near(r, 64, 64)}
	u.K = near(r, 1, max(min(u.N, 16), 1))
	r.Read(u.Crypt[:])
	r.Read(u.Shares[:])
	return u
}

func drawShare(r *rand.Rand) api.Share {
	s := api.Share{Num: near(r, 0, 15), Ueb: bytesOf(counts(r, 120, 17000), r.Int()), Proof: hashRow(counts(r, 5, 550), r.Intn(100))}
	for range counts(r, 17, 300) {
		s.Blocks = append(s.Blocks, bytesOf(counts(r, 70, 3000), r.Int()))
	}
	return s
}

func drawVersion(r *rand.Rand) api.Version {
	v := api.Version{Seq: near(r, 1, 1<<20), N: near(r, 1, 16), Size: near(r, 0, 1024)}
	v.K = near(r, 1, max(min(v.N, 16), 1))
	r.Read(v.Salt[:])
	r.Read(v.Root[:])
	return v
}

func drawPiece(r *rand.Rand) api.Piece {
	height := near(r, 0, 4)
	p := api.Piece{Num: near(r, 0, 15), Version: drawVersion(r), Proof: hashRow(counts(r, 5, 400), r.Intn(100)), Block: bytesOf(counts(r, 1025, 17000), r.Int())}
	p.Sig = api.Sig{Height: height, Leaf: near(r, 0, 65535), Values: hashRow(near(r, 67, 67)&127, 1), Proof: hashRow(height&7, 2)}
	return p
}

// holdPacks holds one thing's bytes, and what is told of these and of others near them.
func holdPacks(t *testing.T, r *rand.Rand, f form, what, got, want string, count map[string]int) {
	t.Helper()
	is(t, what, got, want)
	for range 4 {
		told := f.other(want)
		f.hold(t, what, want)
		count[fmt.Sprint(f.name, " ", told != f.none)]++
		if told != f.none {
			is(t, what+", and back", f.again([]byte(want)), want)
		}
		want = turned(r, want)
	}
}

// turned draws bytes near others: some of them are rows that are whole.
func turned(r *rand.Rand, s string) string {
	l, ok := cut(s)
	if ok && len(l) > 0 && r.Intn(3) > 0 {
		i, j := r.Intn(len(l)), r.Intn(len(l))
		switch r.Intn(5) {
		case 0:
			l[i] = turned(r, l[i])
		case 1:
			l[i], l[j] = l[j], l[i]
		case 2:
			l = append(l[:i], l[i+1:]...)
		case 3:
			l = append(l, l[j])
		case 4:
			l[i] = num(near(r, 0, 17), len(l[i])&7)
		}
		return rows(l...)
	}
	at := r.Intn(len(s) + 1)
	switch r.Intn(4) {
	case 0:
		return s[:at]
	case 1:
		return s[:at] + string([]byte{byte(r.Intn(256))}) + s[at:]
	case 2:
		return s[:at] + s[min(at+1+r.Intn(3), len(s)):]
	}
	b := []byte(s)
	if len(b) > 0 {
		b[r.Intn(len(b))] ^= byte(1 << r.Intn(8))
	}
	return string(b)
}

func TestPacksByChance(t *testing.T) {
	r := rand.New(rand.NewSource(14))
	count := map[string]int{}
	all := forms()
	for n := range 6000 {
		u, s, v := drawUeb(r), drawShare(r), drawVersion(r)
		holdPacks(t, r, all[uebs], fmt.Sprint(n, ": Pack of ", showUeb(u)), string(layout.Pack(u)), otherPack(u), count)
		holdPacks(t, r, all[shares], fmt.Sprint(n, ": PackShare"), string(layout.PackShare(s)), otherPackShare(s), count)
		holdPacks(t, r, all[versions], fmt.Sprint(n, ": PackVersion of ", showVersion(v)), string(layout.PackVersion(v)), otherPackVersion(v), count)
		is(t, fmt.Sprint(n, ": ShareLeaf"), raw(layout.ShareLeaf(s)), raw(otherShareLeaf(s)))
		is(t, fmt.Sprint(n, ": Print"), raw(layout.Print(s.Ueb)), raw(tagged("ueb", string(s.Ueb))))
		if n%4 == 0 {
			p := drawPiece(r)
			holdPacks(t, r, all[pieces], fmt.Sprint(n, ": PackPiece"), string(layout.PackPiece(p)), otherPackPiece(p), count)
		}
		if t.Failed() {
			return
		}
	}
	for _, f := range all {
		if count[f.name+" true"] < 1000 || count[f.name+" false"] < 1000 {
			t.Errorf("drawn are %v", count)
		}
	}
}

// drawFile draws a file; its blocks are sometimes not those of its layout, though they hang rightly.
func drawFile(r *rand.Rand) file {
	n := 1 + r.Intn(16)
	k := 1 + r.Intn(n)
	size := 1 + r.Intn([]int{130, 1024}[r.Intn(2)])
	l := lengths(k, size)
	switch r.Intn(12) {
	case 0:
		l[r.Intn(len(l))] += r.Intn(3)
	case 1:
		l = append(l, r.Intn(3))
	case 2:
		l = l[1:]
	}
	return hung(uebOf(k, n, size), blocksOf(n+r.Intn(2)*r.Intn(3), r.Int(), l))
}

func TestRightSharesByChance(t *testing.T) {
	r := rand.New(rand.NewSource(41))
	count := map[bool]int{}
	var last file
	for n := range 6000 {
		f := drawFile(r)
		if n == 0 {
			last = f
		}
		s, c := cloneShare(f.shares[r.Intn(len(f.shares))]), f.c
		c.Kind = 1 + r.Intn(2)
		for r.Intn(2) == 0 {
			spoilShare(r, &s, last.shares[r.Intn(len(last.shares))])
		}
		for r.Intn(4) == 0 {
			spoilCap(r, &c, last.c)
		}
		last = f
		want, ok := otherRightShare(c, s)
		count[ok]++
		is(t, fmt.Sprintf("%d: RightShare(%+v, %s)", n, c, showShare(s)), rightShare(c, s), said(showUeb(want), ok))
		if t.Failed() {
			return
		}
	}
	if count[true] < 1500 || count[false] < 1500 {
		t.Errorf("drawn are %v", count)
	}
}

func spoilShare(r *rand.Rand, s *api.Share, other api.Share) {
	at := func(n int) int { return r.Intn(max(n, 1)) }
	switch r.Intn(9) {
	case 0:
		s.Num = near(r, 0, 15)
	case 1:
		s.Ueb = []byte(turned(r, string(s.Ueb)))
	case 2:
		s.Proof = append(s.Proof[:at(len(s.Proof))], hashRow(r.Intn(3), 1)...)
	case 3:
		s.Proof = other.Proof
	case 4:
		s.Ueb = other.Ueb
	case 5:
		s.Blocks = other.Blocks
	case 6:
		s.Blocks = append(s.Blocks, other.Blocks...)
	case 7:
		s.Blocks = s.Blocks[:at(len(s.Blocks))]
	case 8:
		if len(s.Blocks) > 0 {
			i := at(len(s.Blocks))
			s.Blocks[i] = []byte(turned(r, string(s.Blocks[i])))
		}
	}
}

func spoilCap(r *rand.Rand, c *api.Cap, other api.Cap) {
	switch r.Intn(6) {
	case 0:
		c.Kind = near(r, 0, 10)
	case 1:
		c.K = near(r, 1, 16)
	case 2:
		c.N = near(r, 1, 16)
	case 3:
		c.Size = near(r, 1, 1024)
	case 4:
		c.Lit = make([]byte, r.Intn(2))
	case 5:
		c.Fp = other.Fp
	}
}

func TestRightPiecesByChance(t *testing.T) {
	r := rand.New(rand.NewSource(141))
	count := map[bool]int{}
	odd := 0 // right ones of no code
	for n := range 60 {
		total := 1 + r.Intn(16)
		k := 1 + r.Intn(total)
		if n%3 == 0 {
			total, k = 1+r.Intn(40), 1+r.Intn(40)
		}
		size := r.Intn(1025)
		length := lengthOf(size, k)
		if r.Intn(8) == 0 {
			length += 1 - r.Intn(3)
		}
		s := slotOf(t, versionOf(n+1, k, total, size), someBlocks(total, max(length, 0), n), n%3, 0)
		for m := range 40 {
			p := clonePiece(s.pieces[r.Intn(total)])
			for r.Intn(2) == 0 {
				spoilPiece(r, &p, s.pieces[r.Intn(total)])
			}
			want := otherRightPiece(s.fp, p)
			count[want]++
			if want && (k > total || total > 16) {
				odd++
			}
			if layout.RightPiece(s.fp, p) != want {
				t.Fatalf("%d, %d: RightPiece(%x, %s) = %v", n, m, s.fp, showPiece(p), !want)
			}
		}
	}
	if count[true] < 500 || count[false] < 500 || odd < 100 {
		t.Errorf("drawn are %v, %d right ones of no code", count, odd)
	}
}

func spoilPiece(r *rand.Rand, p *api.Piece, other api.Piece) {
	switch r.Intn(9) {
	case 0:
		p.Num = near(r, 0, 15)
	case 1:
		p.Block = []byte(turned(r, string(p.Block)))
	case 2:
		p.Proof = other.Proof
	case 3:
		p.Block = other.Block
	case 4:
		p.Num = other.Num
	case 5:
		p.Version = drawVersion(r)
	case 6:
		p.Version.Size = near(r, 0, 1024)
	case 7:
		p.Sig.Leaf = near(r, 0, 1)
	case 8:
		p.Sig.Values[r.Intn(67)][r.Intn(32)] ^= 1
	}
}
