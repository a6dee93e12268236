package layout_test

import (
	"fmt"
	"strings"
	"testing"

	"aumbry/api"
	"aumbry/layout"
)

// P14.2

// sharesThatMayBe are shares that are taken, of all kinds: with no proof, long ones, no blocks, empty ones and many.
func sharesThatMayBe() []api.Share {
	ueb := layout.Pack(uebOf(3, 10, 777))
	l := []api.Share{
		{},
		{Num: 15},
		{Num: 1, Ueb: []byte{}, Proof: []api.Hash{}, Blocks: [][]byte{}},
		{Num: 2, Blocks: [][]byte{nil}},
		{Num: 3, Blocks: [][]byte{{}, {}}},
		{Num: 4, Blocks: [][]byte{nil, []byte("b"), {}, []byte("ck"), nil}},
		{Num: 5, Ueb: []byte("u")},
		{Num: 6, Ueb: bytesOf(16000, 6)},
		{Num: 7, Proof: []api.Hash{{}}},
		{Num: 8, Proof: hashRow(511, 8)},
		{Num: 9, Ueb: []byte("0:,"), Proof: hashRow(2, 9), Blocks: [][]byte{[]byte("1:x,"), []byte(","), []byte("0")}},
		{Num: 10, Blocks: [][]byte{bytesOf(16000, 10)}},
	}
	for count := range 17 {
		s := api.Share{Num: count % 16, Ueb: ueb, Proof: hashRow(count, count)}
		for i := range count {
			s.Blocks = append(s.Blocks, bytesOf(i*3, count))
		}
		l = append(l, s, api.Share{Num: count % 16, Blocks: make([][]byte, count)})
	}
	return l
}

// sharesThatMayNot are shares whose bytes are none.
func sharesThatMayNot() []api.Share {
	l := []api.Share{{Num: 16}, {Num: 17}, {Num: 255}, {Num: 128, Blocks: [][]byte{{1}}}}
	for _, count := range []int{17, 18, 255, 256, 257, 272, 300, 512} {
		l = append(l, api.Share{Num: 1, Blocks: make([][]byte, count)})
	}
	return append(l, api.Share{Ueb: bytesOf(1<<14, 1)}, api.Share{Blocks: [][]byte{bytesOf(1<<14+1, 1)}}, api.Share{Proof: hashRow(512, 1)})
}

func TestPackShareToTheByte(t *testing.T) {
	a, b := api.Hash{31: 'a'}, api.Hash{0: 'b'}
	noughts := strings.Repeat("\x00", 31)
	for _, of := range []struct {
		s    api.Share
		want string
	}{
		{api.Share{}, "1:\x00,0:,0:,1:\x00,"},
		{api.Share{Num: 9, Ueb: []byte("layout"), Blocks: [][]byte{[]byte("one"), nil, []byte("three")}}, "1:\x09,6:layout,0:,1:\x03,3:one,0:,5:three,"},
		{api.Share{Num: 15, Proof: []api.Hash{a, b}, Blocks: [][]byte{{}}}, "1:\x0f,0:,64:" + noughts + "ab" + noughts + ",1:\x01,0:,"},
	} {
		is(t, "PackShare of "+showShare(of.s), string(layout.PackShare(of.s)), of.want)
	}
}

func TestPackShare(t *testing.T) {
	all := append(sharesThatMayBe(), sharesThatMayNot()...)
	for _, n := range strange() {
		all = append(all, api.Share{Num: n}, api.Share{Num: n, Ueb: []byte("ueb"), Proof: hashRow(2, 1), Blocks: [][]byte{{1}, {2}}})
	}
	for _, s := range all {
		is(t, "PackShare of "+showShare(s), string(layout.PackShare(s)), otherPackShare(s))
	}
}

func TestUnpackShareOfPackShare(t *testing.T) {
	for _, s := range sharesThatMayBe() {
		got, ok := layout.UnpackShare(layout.PackShare(s))
		is(t, "UnpackShare of PackShare", said(showShare(got), ok), said(showShare(s), true))
		forms()[shares].take(t, "a share", otherPackShare(s))
	}
	for num := range 16 {
		s := api.Share{Num: num, Ueb: []byte("u"), Blocks: [][]byte{{1}}}
		got, ok := layout.UnpackShare(layout.PackShare(s))
		is(t, "UnpackShare of PackShare", said(showShare(got), ok), said(showShare(s), true))
	}
}

func TestUnpackShareOfWhatMayNotBe(t *testing.T) {
	for _, s := range sharesThatMayNot() {
		forms()[shares].refuse(t, fmt.Sprintf("a share of num %d, with %d blocks", s.Num, len(s.Blocks)), otherPackShare(s))
	}
	for num := 16; num < 256; num++ {
		forms()[shares].refuse(t, fmt.Sprintf("num %d", num), otherPackShare(api.Share{Num: num, Ueb: []byte("u"), Blocks: [][]byte{{1}}}))
	}
}

func TestUnpackShareOfBytesNear(t *testing.T) {
	for _, s := range []api.Share{
		{},
		{Num: 3, Ueb: []byte("layout"), Proof: hashRow(1, 4), Blocks: [][]byte{[]byte("block")}},
		{Num: 15, Ueb: layout.Pack(uebOf(3, 10, 777)), Proof: hashRow(3, 4), Blocks: [][]byte{[]byte("block"), {}, bytesOf(12, 1)}},
	} {
		forms()[shares].refuseNear(t, showShare(s), otherPackShare(s))
		forms()[shares].turn(t, showShare(s), otherPackShare(s))
	}
}

func TestUnpackShareOfRowsOfOtherLengths(t *testing.T) {
	for count := range 4 {
		s := api.Share{Num: count, Ueb: []byte("layout"), Proof: hashRow(count+1, 4), Blocks: make([][]byte, count)}
		// A layout's bytes and a block may be of any length, and a proof of many.
		rowsOfOtherLengths(t, forms()[shares], showShare(s), otherPackShare(s), 1, 2, 4, 5, 6)
	}
}

// A proof is whole hashes.
func TestUnpackShareOfProofs(t *testing.T) {
	for length := range 200 {
		b := rows("\x01", "ueb", string(bytesOf(length, 1)), "\x01", "block")
		if length%32 == 0 {
			forms()[shares].take(t, fmt.Sprintf("a proof of %d bytes", length), b)
			continue
		}
		forms()[shares].refuse(t, fmt.Sprintf("a proof of %d bytes", length), b)
	}
}

// How many blocks there are is told, and there are as many.
func TestUnpackShareOfCounts(t *testing.T) {
	for told := range 256 {
		for there := range 20 {
			b := rows("\x01", "ueb", "", string([]byte{byte(told)})) + rows(make([]string, there)...)
			what := fmt.Sprintf("%d blocks told, and %d there", told, there)
			if told == there && told <= 16 {
				forms()[shares].take(t, what, b)
				continue
			}
			forms()[shares].refuse(t, what, b)
		}
	}
	for _, count := range []string{"", "\x00\x01", "\x01\x00", "\x01\x01", "1", "\x00\x00\x00\x00\x00\x00\x00\x01", "\x01\x00\x00\x00\x00\x00\x00\x00\x01"} {
		for there := range 4 {
			forms()[shares].refuse(t, fmt.Sprintf("a count of %q", count), rows("\x01", "ueb", "", count)+rows(make([]string, there)...))
		}
	}
}

// ofLength tells a share as bytes that are just so many; with no block, with one, or with 16.
func ofLength(t *testing.T, length, blocks int) string {
	s := api.Share{Num: 7, Ueb: bytesOf(3000, 1), Proof: hashRow(3, 1)}
	for i := range blocks {
		s.Blocks = append(s.Blocks, bytesOf(800, i))
	}
	lack := func() int { return length - len(otherPackShare(s)) }
	s.Ueb = bytesOf(3000+lack(), 1)
	s.Ueb = bytesOf(len(s.Ueb)+lack(), 1)
	if lack() != 0 {
		t.Fatal("no share of", length, "bytes")
	}
	return otherPackShare(s)
}

func TestUnpackShareOfMostBytes(t *testing.T) {
	for _, blocks := range []int{0, 1, 15, 16} {
		for length := api.MaxBytes - 5; length <= api.MaxBytes; length++ {
			forms()[shares].take(t, fmt.Sprint(length, " bytes"), ofLength(t, length, blocks))
		}
		for length := api.MaxBytes + 1; length <= api.MaxBytes+5; length++ {
			forms()[shares].refuse(t, fmt.Sprint(length, " bytes"), ofLength(t, length, blocks))
		}
		forms()[shares].refuse(t, "many bytes", ofLength(t, 2*api.MaxBytes, blocks))
	}
}

func TestShareLeaf(t *testing.T) {
	all := append(sharesThatMayBe(), sharesThatMayNot()...)
	for count := range 40 {
		s := api.Share{Num: count}
		for i := range count {
			s.Blocks = append(s.Blocks, bytesOf((i*37+count)%65, i))
		}
		all = append(all, s)
	}
	for _, s := range all {
		got := layout.ShareLeaf(s)
		is(t, fmt.Sprintf("ShareLeaf with %d blocks", len(s.Blocks)), raw(got), raw(otherShareLeaf(s)))
	}
}

// A share's leaf is that of its blocks alone, and of each of them.
func TestShareLeafHangsOnBlocks(t *testing.T) {
	s := api.Share{Num: 3, Ueb: []byte("ueb"), Proof: hashRow(2, 1), Blocks: [][]byte{[]byte("ab"), []byte("c"), nil}}
	leaf := layout.ShareLeaf(s)
	for _, other := range []api.Share{
		{Blocks: s.Blocks},
		{Num: -1, Ueb: []byte("x"), Proof: hashRow(1, 1), Blocks: s.Blocks},
	} {
		is(t, "ShareLeaf of the same blocks", raw(layout.ShareLeaf(other)), raw(leaf))
	}
	for _, blocks := range [][][]byte{
		nil, {[]byte("ab"), []byte("c")}, {[]byte("ab"), []byte("c"), nil, nil}, {[]byte("ab"), nil, []byte("c")}, {[]byte("a"), []byte("bc"), nil},
		{[]byte("abc"), nil, nil}, {[]byte("ab"), []byte("c"), {0}}, {[]byte("ab"), []byte("d"), nil},
	} {
		if layout.ShareLeaf(api.Share{Blocks: blocks}) == leaf {
			t.Errorf("ShareLeaf of %x is that of %x", blocks, s.Blocks)
		}
	}
}
