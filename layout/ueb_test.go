package layout_test

import (
	"fmt"
	"strings"
	"testing"

	"aumbry/api"
	"aumbry/layout"
)

// P14.1

// uebOf tells a layout that may be, as numbers go.
func uebOf(k, n, size int) api.Ueb {
	return api.Ueb{K: k, N: n, Size: size, Seg: 64, Crypt: hashOf(k), Shares: hashOf(n)}
}

// uebsThatMayBe are layouts at all ends.
func uebsThatMayBe() []api.Ueb {
	var l []api.Ueb
	for n := 1; n <= 16; n++ {
		for k := 1; k <= n; k++ {
			for _, size := range []int{1, 2, 63, 64, 65, 255, 256, 257, 1000, 1023, 1024} {
				l = append(l, uebOf(k, n, size))
			}
		}
	}
	for size := 1; size <= 1024; size++ {
		l = append(l, uebOf(3, 10, size))
	}
	none, all := uebOf(1, 1, 1), uebOf(16, 16, 1024)
	none.Crypt, none.Shares = api.Hash{}, api.Hash{}
	for i := range 32 {
		all.Crypt[i], all.Shares[i] = 255, byte(i)
	}
	return append(l, none, all)
}

// uebsThatMayNot are layouts one of whose numbers is beyond its end.
func uebsThatMayNot() []api.Ueb {
	l := []api.Ueb{{}}
	for n := 1; n <= 16; n++ {
		for k := 1; k <= n; k++ {
			u := uebOf(k, n, 100)
			for _, k := range []int{0, n + 1, n + 2, 255} {
				other := u
				other.K = k
				l = append(l, other)
			}
			for _, n := range []int{0, k - 1, 17, 18, 255} {
				other := u
				other.N = n
				l = append(l, other)
			}
		}
	}
	for _, size := range []int{0, 1025, 1026, 2048, 1 << 16, 1 << 24, 1<<24 + 1, 1 << 31, 1<<32 - 1} {
		l = append(l, uebOf(3, 10, size))
	}
	for _, seg := range []int{0, 1, 32, 62, 63, 65, 66, 128, 256 + 64, 1 << 14, 1<<16 + 64, 1<<24 + 64, 1<<32 - 1} {
		u := uebOf(3, 10, 100)
		u.Seg = seg
		l = append(l, u)
	}
	return l
}

func TestPackToTheByte(t *testing.T) {
	u := api.Ueb{K: 3, N: 10, Size: 777, Seg: 64}
	for i := range 32 {
		u.Crypt[i], u.Shares[i] = byte('a'+i), byte('A'+i)
	}
	want := "1:\x03,1:\x0a,4:\x00\x00\x03\x09,4:\x00\x00\x00\x40,32:abcdefghijklmnopqrstuvwxyz{|}~\x7f\x80,32:ABCDEFGHIJKLMNOPQRSTUVWXYZ[\\]^_`,"
	is(t, "Pack", string(layout.Pack(u)), want)
	noughts := strings.Repeat("\x00", 32)
	is(t, "Pack of nothing", string(layout.Pack(api.Ueb{})), "1:\x00,1:\x00,4:\x00\x00\x00\x00,4:\x00\x00\x00\x00,32:"+noughts+",32:"+noughts+",")
}

func TestPack(t *testing.T) {
	for _, u := range append(uebsThatMayBe(), uebsThatMayNot()...) {
		is(t, "Pack of "+showUeb(u), string(layout.Pack(u)), otherPack(u))
	}
	for _, n := range strange() {
		for _, u := range []api.Ueb{{K: n, N: 1, Size: 2, Seg: 3}, {K: 4, N: n, Size: 5, Seg: 6}, {K: 7, N: 8, Size: n, Seg: 9}, {K: 1, N: 2, Size: 3, Seg: n}, {K: n, N: n, Size: n, Seg: n}} {
			is(t, "Pack of "+showUeb(u), string(layout.Pack(u)), otherPack(u))
		}
	}
}

func TestUnpackOfPack(t *testing.T) {
	for _, u := range uebsThatMayBe() {
		got, ok := layout.Unpack(layout.Pack(u))
		is(t, "Unpack of Pack of "+showUeb(u), said(showUeb(got), ok), said(showUeb(u), true))
		forms()[uebs].take(t, showUeb(u), otherPack(u))
	}
}

func TestUnpackOfNumbersBeyond(t *testing.T) {
	for _, u := range uebsThatMayNot() {
		forms()[uebs].refuse(t, showUeb(u), otherPack(u))
	}
}

// The chapter's example, and what is nearly nothing.
func TestUnpackOfNothing(t *testing.T) {
	u, ok := layout.Unpack(nil)
	if ok || u != (api.Ueb{}) {
		t.Errorf("Unpack of nothing = %s, %v", showUeb(u), ok)
	}
	for _, f := range forms() {
		is(t, f.name+" of nothing", f.unpack(nil), f.none)
		for _, b := range []string{"", "\x00", ":", ",", "0", "0:", "0:,", "00:,", "1:,", "-1:,", strings.Repeat("0:,", 4), strings.Repeat("0:,", 5), strings.Repeat("0:,", 6), strings.Repeat("0:,", 7), strings.Repeat("1:\x01,", 5), strings.Repeat("1:\x01,", 6)} {
			f.refuse(t, fmt.Sprintf("%q", b), b)
		}
	}
}

func TestUnpackOfBytesNear(t *testing.T) {
	for _, u := range []api.Ueb{uebOf(1, 1, 1), uebOf(3, 10, 777), uebOf(16, 16, 1024)} {
		forms()[uebs].refuseNear(t, showUeb(u), otherPack(u))
		forms()[uebs].turn(t, showUeb(u), otherPack(u))
	}
}

// rowsOfOtherLengths holds that rows are refused, each of which in turn is longer or shorter; but of those that may be of any length.
func rowsOfOtherLengths(t *testing.T, f form, what, b string, free ...int) {
	t.Helper()
	isFree := map[int]bool{}
	for _, i := range free {
		isFree[i] = true
	}
	l, ok := cut(b)
	if !ok {
		t.Fatal(what, "is not rows")
	}
	for i, row := range l {
		if isFree[i] {
			continue
		}
		for _, other := range []string{
			"", row[:len(row)-1], row[1:], row + "\x00", "\x00" + row, row + row, "\x00\x00" + row, row + "x",
			strings.Repeat("\x00", 7) + row, strings.Repeat("\x00", 8-len(row)%8) + row, strings.Repeat("\x00", 300) + row, strings.Repeat("\x01", 9),
		} {
			changed := append(append(append([]string{}, l[:i]...), other), l[i+1:]...)
			f.refuse(t, fmt.Sprintf("%s, with row %d as %.50q", what, i, other), rows(changed...))
		}
	}
}

func TestUnpackOfRowsOfOtherLengths(t *testing.T) {
	for _, u := range []api.Ueb{uebOf(1, 1, 1), uebOf(3, 10, 777), uebOf(16, 16, 1024), {K: 1, N: 1, Size: 1, Seg: 64}} {
		rowsOfOtherLengths(t, forms()[uebs], showUeb(u), otherPack(u))
	}
}

func TestPrint(t *testing.T) {
	for _, b := range [][]byte{nil, {}, {0}, []byte("ueb"), []byte("3:ueb,"), layout.Pack(uebOf(3, 10, 777)), bytesOf(9, 1), bytesOf(10, 1), bytesOf(100, 1), bytesOf(1<<14, 1), bytesOf(1<<14+1, 1)} {
		got := layout.Print(b)
		is(t, fmt.Sprintf("Print of %d bytes", len(b)), raw(got), raw(tagged("ueb", string(b))))
	}
	// SHA-256 of 3:ueb,0:,
	is(t, "Print of nothing", fmt.Sprintf("%x", layout.Print(nil)), "415c61bf56a0b74520825589ac3e2090588f7eb54aab01c1da21d4c5d5f55676")
}
