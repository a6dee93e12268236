package layout_test

import (
	"fmt"
	"strings"
	"testing"

	"aumbry/api"
	"aumbry/layout"
)

// P14.3

// versionOf tells a version that may be, as numbers go.
func versionOf(seq, k, n, size int) api.Version {
	return api.Version{Seq: seq, K: k, N: n, Size: size, Salt: keyOf(seq), Root: hashOf(n)}
}

// versionsThatMayBe are versions at all ends.
func versionsThatMayBe() []api.Version {
	var l []api.Version
	for n := 1; n <= 16; n++ {
		for k := 1; k <= n; k++ {
			for _, size := range []int{0, 1, 255, 256, 1023, 1024} {
				l = append(l, versionOf(k*n, k, n, size))
			}
		}
	}
	for _, seq := range []int{1, 2, 127, 128, 255, 256, 257, 65535, 65536, 1<<20 - 1, 1 << 20} {
		l = append(l, versionOf(seq, 3, 10, 777), versionOf(seq, 1, 1, 0), versionOf(seq, 16, 16, 1024))
	}
	none, all := versionOf(1, 1, 1, 0), versionOf(1<<20, 16, 16, 1024)
	none.Salt, none.Root = api.Key{}, api.Hash{}
	for i := range 32 {
		all.Salt[i/2], all.Root[i] = byte(i), 255
	}
	return append(l, none, all)
}

// versionsThatMayNot are versions one of whose numbers is beyond its end.
func versionsThatMayNot() []api.Version {
	l := []api.Version{{}}
	for _, seq := range []int{0, 1<<20 + 1, 1<<20 + 2, 1 << 21, 1 << 24, 1 << 31, 1<<32 - 1} {
		l = append(l, versionOf(seq, 3, 10, 777))
	}
	for n := 1; n <= 16; n++ {
		for _, k := range []int{0, n + 1, n + 2, 255} {
			l = append(l, versionOf(1, k, n, 777))
		}
	}
	for k := 1; k <= 16; k++ {
		for _, n := range []int{0, k - 1, 17, 18, 32, 255} {
			l = append(l, versionOf(1, k, n, 777))
		}
	}
	for _, size := range []int{1025, 1026, 2048, 1 << 16, 1 << 24, 1 << 31, 1<<32 - 1} {
		l = append(l, versionOf(1, 3, 10, size))
	}
	return l
}

func TestPackVersionToTheByte(t *testing.T) {
	v := api.Version{Seq: 66051, K: 3, N: 10, Size: 777}
	copy(v.Salt[:], "0123456789abcdef")
	for i := range 32 {
		v.Root[i] = byte('A' + i)
	}
	want := "4:\x00\x01\x02\x03,1:\x03,1:\x0a,4:\x00\x00\x03\x09,16:0123456789abcdef,32:ABCDEFGHIJKLMNOPQRSTUVWXYZ[\\]^_`,"
	is(t, "PackVersion", string(layout.PackVersion(v)), want)
	is(t, "PackVersion of nothing", string(layout.PackVersion(api.Version{})), "4:\x00\x00\x00\x00,1:\x00,1:\x00,4:\x00\x00\x00\x00,16:"+strings.Repeat("\x00", 16)+",32:"+strings.Repeat("\x00", 32)+",")
}

func TestPackVersion(t *testing.T) {
	for _, v := range append(versionsThatMayBe(), versionsThatMayNot()...) {
		is(t, "PackVersion of "+showVersion(v), string(layout.PackVersion(v)), otherPackVersion(v))
	}
	for _, n := range strange() {
		for _, v := range []api.Version{{Seq: n, K: 1, N: 2, Size: 3}, {Seq: 4, K: n, N: 5, Size: 6}, {Seq: 7, K: 8, N: n, Size: 9}, {Seq: 1, K: 2, N: 3, Size: n}, {Seq: n, K: n, N: n, Size: n}} {
			is(t, "PackVersion of "+showVersion(v), string(layout.PackVersion(v)), otherPackVersion(v))
		}
	}
}

func TestUnpackVersionOfPackVersion(t *testing.T) {
	for _, v := range versionsThatMayBe() {
		got, ok := layout.UnpackVersion(layout.PackVersion(v))
		is(t, "UnpackVersion of PackVersion of "+showVersion(v), said(showVersion(got), ok), said(showVersion(v), true))
		forms()[versions].take(t, showVersion(v), otherPackVersion(v))
	}
	for size := range 1025 {
		forms()[versions].take(t, "a size", otherPackVersion(versionOf(size+1, 2, 3, size)))
	}
}

func TestUnpackVersionOfNumbersBeyond(t *testing.T) {
	for _, v := range versionsThatMayNot() {
		forms()[versions].refuse(t, showVersion(v), otherPackVersion(v))
	}
}

func TestUnpackVersionOfBytesNear(t *testing.T) {
	for _, v := range []api.Version{versionOf(1, 1, 1, 0), versionOf(1000, 3, 10, 777), versionOf(1<<20, 16, 16, 1024)} {
		forms()[versions].refuseNear(t, showVersion(v), otherPackVersion(v))
		forms()[versions].turn(t, showVersion(v), otherPackVersion(v))
		rowsOfOtherLengths(t, forms()[versions], showVersion(v), otherPackVersion(v))
	}
}

// sigOf tells a signature by its form alone.
func sigOf(height, leaf int) api.Sig {
	return api.Sig{Height: height, Leaf: leaf, Values: hashRow(67, height+1), Proof: hashRow(height, height+2)}
}

// pieceOf tells a piece by its form alone.
func pieceOf(num, height int) api.Piece {
	return api.Piece{Num: num, Version: versionOf(5, 3, 10, 777), Sig: sigOf(height, 0), Proof: hashRow(4, 9), Block: bytesOf(259, 1)}
}

func piecesThatMayBe() []api.Piece {
	var l []api.Piece
	for num := range 16 {
		l = append(l, pieceOf(num, num%5))
	}
	for height := range 5 {
		for _, leaf := range []int{0, 1, 15, 16, 255, 256, 65535} {
			p := pieceOf(height, height)
			p.Sig.Leaf = leaf
			l = append(l, p)
		}
	}
	for count := range 20 {
		p := pieceOf(count%16, 0)
		p.Proof, p.Block = hashRow(count, 1), bytesOf(count, 2)
		l = append(l, p)
	}
	for _, v := range versionsThatMayBe() {
		p := pieceOf(1, 0)
		p.Version = v
		l = append(l, p)
	}
	long, big, bare := pieceOf(1, 4), pieceOf(1, 4), pieceOf(1, 0)
	long.Proof, long.Block = hashRow(400, 3), nil
	big.Proof, big.Block = nil, bytesOf(13000, 1)
	bare.Proof, bare.Block = nil, nil
	return append(l, long, big, bare)
}

func piecesThatMayNot() []api.Piece {
	l := []api.Piece{{}}
	for _, num := range []int{16, 17, 128, 255} {
		l = append(l, pieceOf(num, 1))
	}
	for _, v := range versionsThatMayNot() {
		p := pieceOf(1, 0)
		p.Version = v
		l = append(l, p)
	}
	for _, height := range []int{5, 6, 255} {
		l = append(l, pieceOf(1, height))
	}
	for _, counts := range [][2]int{{66, 1}, {67, 0}, {67, 2}, {68, 1}, {0, 1}, {0, 0}, {66, 3}} {
		p := pieceOf(1, 1)
		p.Sig.Values, p.Sig.Proof = hashRow(counts[0], 1), hashRow(counts[1], 2)
		l = append(l, p)
	}
	wide := pieceOf(1, 0)
	wide.Block = bytesOf(1<<14+1, 1)
	return append(l, wide)
}

func TestPackPieceToTheByte(t *testing.T) {
	sig := api.Sig{Height: 1, Leaf: 258, Values: []api.Hash{{31: 'v'}, {0: 'w'}}, Proof: []api.Hash{{31: 'p'}}}
	p := api.Piece{Num: 15, Version: api.Version{Seq: 1, K: 2, N: 3, Size: 4}, Sig: sig, Proof: []api.Hash{{31: 'a'}, {0: 'b'}}, Block: []byte("block")}
	noughts := strings.Repeat("\x00", 31)
	version := "4:\x00\x00\x00\x01,1:\x02,1:\x03,4:\x00\x00\x00\x04,16:" + noughts[:16] + ",32:" + noughts + "\x00,"
	want := "1:\x0f," + fmt.Sprintf("%d:%s,", len(version), version) + "99:\x01\x01\x02" + noughts + "vw" + noughts + noughts + "p,64:" + noughts + "ab" + noughts + ",5:block,"
	is(t, "PackPiece", string(layout.PackPiece(p)), want)
	none := strings.ReplaceAll(strings.ReplaceAll(strings.ReplaceAll(strings.ReplaceAll(version, "\x01", "\x00"), "\x02", "\x00"), "\x03", "\x00"), "\x04", "\x00")
	is(t, "PackPiece of nothing", string(layout.PackPiece(api.Piece{})), "1:\x00,"+fmt.Sprintf("%d:%s,", len(none), none)+"3:\x00\x00\x00,0:,0:,")
}

func TestPackPiece(t *testing.T) {
	all := append(piecesThatMayBe(), piecesThatMayNot()...)
	for _, n := range strange() {
		p := pieceOf(n, 1)
		p.Sig.Height, p.Sig.Leaf = n, n
		p.Version = versionOf(n, n, n, n)
		all = append(all, pieceOf(n, 1), p)
	}
	for _, p := range all {
		is(t, "PackPiece of "+showPiece(p), string(layout.PackPiece(p)), otherPackPiece(p))
	}
}

func TestUnpackPieceOfPackPiece(t *testing.T) {
	for _, p := range piecesThatMayBe() {
		got, ok := layout.UnpackPiece(layout.PackPiece(p))
		is(t, "UnpackPiece of PackPiece", said(showPiece(got), ok), said(showPiece(p), true))
		forms()[pieces].take(t, "a piece", otherPackPiece(p))
	}
}

func TestUnpackPieceOfWhatMayNotBe(t *testing.T) {
	for _, p := range piecesThatMayNot() {
		forms()[pieces].refuse(t, fmt.Sprintf("num %d, version %s, height %d, %d values, a proof of %d", p.Num, showVersion(p.Version), p.Sig.Height, len(p.Sig.Values), len(p.Sig.Proof)), otherPackPiece(p))
	}
	for num := 16; num < 256; num++ {
		forms()[pieces].refuse(t, fmt.Sprint("num ", num), otherPackPiece(pieceOf(num, 0)))
	}
}

func TestUnpackPieceOfBytesNear(t *testing.T) {
	for height := range 5 {
		p := pieceOf(height*3, height)
		p.Proof, p.Block = hashRow(height, 1), bytesOf(height*3, 1)
		b := otherPackPiece(p)
		forms()[pieces].rowsNear(t, showPiece(p), b)
		// A block may be of any length, and a proof of many; what a signature may be is held below.
		rowsOfOtherLengths(t, forms()[pieces], showPiece(p), b, 2, 3, 4)
	}
	bare := pieceOf(7, 0)
	bare.Proof, bare.Block = hashRow(1, 1), []byte("b")
	forms()[pieces].refuseNear(t, "a bare piece", otherPackPiece(bare))
	forms()[pieces].turn(t, "a bare piece", otherPackPiece(bare))
}

// Within a piece its version's bytes are a version's, and its signature's a signature's.
func TestUnpackPieceOfPartsNear(t *testing.T) {
	version, sig, proof := otherPackVersion(versionOf(5, 3, 10, 777)), packedSig(sigOf(1, 1)), rawAll(hashRow(2, 1))
	f := forms()[pieces]
	f.take(t, "all parts", rows("\x01", version, sig, proof, "block"))
	for n := range len(version) {
		f.refuse(t, fmt.Sprintf("the first %d bytes of a version", n), rows("\x01", version[:n], sig, proof, "block"))
		f.refuse(t, fmt.Sprintf("a version without byte %d", n), rows("\x01", version[:n]+version[n+1:], sig, proof, "block"))
		for _, by := range []byte{1, 0x80} {
			turned := []byte(version)
			turned[n] ^= by
			f.hold(t, fmt.Sprintf("byte %d of the version turned", n), rows("\x01", string(turned), sig, proof, "block"))
		}
	}
	f.refuse(t, "a version and a byte", rows("\x01", version+"\x00", sig, proof, "block"))
	for n := range len(sig) {
		f.refuse(t, fmt.Sprintf("the first %d bytes of a signature", n), rows("\x01", version, sig[:n], proof, "block"))
		f.refuse(t, fmt.Sprintf("a signature and %d bytes", n+1), rows("\x01", version, sig+sig[:n+1], proof, "block"))
	}
	for height := range 256 {
		for _, count := range []int{0, 1, 4, 5} {
			f.hold(t, fmt.Sprintf("height %d and %d hashes", height, count), rows("\x01", version, num(height, 1)+sig[1:3]+rawAll(hashRow(67+count, 1)), proof, "block"))
		}
	}
	for length := range 200 {
		b := rows("\x01", version, sig, string(bytesOf(length, 1)), "block")
		f.hold(t, fmt.Sprintf("a proof of %d bytes", length), b)
		if taken := f.unpack([]byte(b)) != f.none; taken != (length%32 == 0) {
			t.Errorf("a proof of %d bytes: %v", length, taken)
		}
	}
}

func TestUnpackPieceOfMostBytes(t *testing.T) {
	for _, proof := range []int{0, 5} {
		p := pieceOf(7, 4)
		p.Proof, p.Block = hashRow(proof, 1), bytesOf(13000, 1)
		rest := len(otherPackPiece(p)) - 13000
		for length := api.MaxBytes - 5; length <= api.MaxBytes+5; length++ {
			p.Block = bytesOf(length-rest, 1)
			b := otherPackPiece(p)
			if len(b) != length {
				t.Fatal("no piece of", length, "bytes, but of", len(b))
			}
			if length <= api.MaxBytes {
				forms()[pieces].take(t, fmt.Sprint(length, " bytes"), b)
			} else {
				forms()[pieces].refuse(t, fmt.Sprint(length, " bytes"), b)
			}
		}
	}
}
