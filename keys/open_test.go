package keys_test

import (
	"fmt"
	"math"
	"slices"
	"strings"
	"testing"

	"aumbry/api"
	"aumbry/code"
	"aumbry/keys"
	"aumbry/mss"
)

// P12.1: Open's heights

// noHeights are those of no tree.
func noHeights() []int {
	return []int{-1, -2, -4, -5, -256, -1 << 32, math.MinInt, math.MinInt + 1, math.MinInt + 4, api.MaxHeight + 1, api.MaxHeight + 2, 16, 63, 64, 256, 260, 1 << 32, 1<<32 + 4, math.MaxInt - 1, math.MaxInt}
}

func TestOpenOfNoHeight(t *testing.T) {
	d, s := newStore(t, 4, 2)
	puts(t, s, "k", four(1))
	before := d.Clone()
	dead, died := newStore(t, 4, 2)
	dead.Stop(0, 0)
	died.Put("k", nil)
	for _, height := range noHeights() {
		what := fmt.Sprintf("Open with a height of %d", height)
		for _, name := range []string{"k", "", "none", letters(100)} {
			if k, err := keys.Open(s, name, seeded(1), height); k != nil || err != api.ErrArg {
				t.Errorf("%s: %v, %d, want ErrArg", what, k, err)
			}
			if k, err := keys.Open(died, name, seeded(1), height); k != nil || err != api.ErrArg {
				t.Errorf("%s on a store that has died: %v, %d, want ErrArg", what, k, err)
			}
			// A store that is asked anything panics here.
			if k, err := keys.Open(nil, name, seeded(1), height); k != nil || err != api.ErrArg {
				t.Errorf("%s: %v, %d, want ErrArg", what, k, err)
			}
		}
		alike(t, what, d, before)
	}
	has(t, "behind all of these", s, "k", four(1))
	left(t, "a keystore opened behind all of these", openKeys(t, s, "k", seeded(1), 1), 1)
}

func TestOpenOfEachHeight(t *testing.T) {
	if api.MaxHeight != 4 {
		t.Fatal("the tests know of heights from 0 to 4")
	}
	for height, leaves := range []int{1, 2, 4, 8, 16} {
		what := fmt.Sprintf("height %d", height)
		d, s := newStore(t, 3, 2)
		before := d.Clone()
		k := openKeys(t, s, "k", seeded(height), height)
		left(t, what, k, leaves)
		if k.Print() != printed(seeded(height), height) {
			t.Errorf("%s: another Print", what)
		}
		alike(t, what, d, before)
		lacks(t, what, s, "k")
		if len(s.Names()) != 0 || s.Free() != 3 {
			t.Errorf("%s: a keystore that signed nothing has %q in the store", what, s.Names())
		}
		signs(t, what, k, seeded(height), height, 0, "m")
		left(t, what, k, leaves-1)
	}
}

// Open, Print and Left write nothing: a write that is to tear stays ahead.
func TestNothingIsWritten(t *testing.T) {
	for _, data := range []string{"none", "", "\x03", four(9), strings.Repeat("\x00", 8), letters(30)} {
		d, s := newStore(t, 3, 2)
		if data != "none" {
			puts(t, s, "k", data)
		}
		before := d.Clone()
		d.Stop(0, 32)
		for height := range 5 {
			k := openKeys(t, s, "k", seeded(2), height)
			k.Left()
			k.Print()
			k.Left()
		}
		alike(t, fmt.Sprintf("data of %q", data), d, before)
	}
}

// P12.1: the next leaf

// numbers are data that the store may have, and the number that they are.
func numbers() []struct {
	data   string
	number int
} {
	type row = struct {
		data   string
		number int
	}
	rows := []row{
		{"", 0}, {"\x00", 0}, {"\x01", 1}, {"\x02", 2}, {"\x03", 3}, {"\x04", 4}, {"\x07", 7}, {"\x0f", 15}, {"\x10", 16}, {"\x11", 17}, {"\x80", 128}, {"\xff", 255},
		{"\x00\x02", 2}, {"\x01\x00", 256}, {"\x00\x00\x05", 5}, {"\x05\x00\x00", 5 << 16},
		{"\x00\x00\x00\x00", 0}, {"\x00\x00\x00\x01", 1}, {"\x00\x00\x00\x06", 6}, {"\x00\x00\x00\x0f", 15}, {"\x00\x00\x00\x10", 16}, {"\x06\x00\x00\x00", 6 << 24}, {"\x80\x00\x00\x01", 1<<31 + 1}, {"\xff\xff\xff\xff", 1<<32 - 1},
		{"\x00\x00\x00\x00\x03", 3}, {"\x01\x00\x00\x00\x00", 1 << 32}, {"\x01\x00\x00\x00\x03", 1<<32 + 3}, {"\x00\x00\x00\x00\x00\x0e", 14}, {"\x01\x00\x00\x00\x00\x01", 1<<40 + 1},
		{"\x00\x00\x00\x00\x00\x00\x00", 0}, {"\x00\x00\x00\x00\x00\x00\x0b", 11}, {"\x01\x00\x00\x00\x00\x00\x00", 1 << 48}, {"\x80\x00\x00\x00\x00\x00\x02", 1<<55 + 2}, {"\xff\xff\xff\xff\xff\xff\xff", 1<<56 - 1},
		// Of more than 7 bytes there is none.
		{"\x00\x00\x00\x00\x00\x00\x00\x00", 0}, {"\x00\x00\x00\x00\x00\x00\x00\x05", 0}, {"\x05\x00\x00\x00\x00\x00\x00\x00", 0}, {"\xff\xff\xff\xff\xff\xff\xff\xff", 0}, {"\x00\x00\x00\x00\x00\x00\x00\x00\x05", 0}, {letters(12), 0},
		// Digits are bytes, too.
		{"7", '7'}, {"0", '0'},
	}
	return rows
}

func TestNextLeaf(t *testing.T) {
	for _, r := range numbers() {
		for height, leaves := range []int{1, 2, 4, 8, 16} {
			what := fmt.Sprintf("height %d, data of %q", height, r.data)
			d, s := newStore(t, 3, 2)
			puts(t, s, "k", r.data)
			k := openKeys(t, s, "k", seeded(3), height)
			left(t, what, k, max(leaves-r.number, 0))
			has(t, what, s, "k", r.data)
			before := d.Writes()
			if r.number >= leaves {
				refuses(t, what, k, "m", api.ErrExpired)
				if d.Writes() != before {
					t.Errorf("%s: ErrExpired, but there was a write", what)
				}
				has(t, what, s, "k", r.data)
				left(t, what, k, 0)
				continue
			}
			signs(t, what, k, seeded(3), height, r.number, "m")
			has(t, what, s, "k", four(r.number+1))
			left(t, what, k, leaves-r.number-1)
			left(t, what+", opened again", openKeys(t, s, "k", seeded(3), height), leaves-r.number-1)
		}
	}
}

// What the store had at Open is known from then on.
func TestNextLeafIsThatOfOpen(t *testing.T) {
	for _, r := range numbers() {
		for later, number := range map[string]int{"dropped": 0, "": 0, "\x01": 1, four(2): 2, strings.Repeat("\xff", 8): 0} {
			what := fmt.Sprintf("opened with data of %q, then %q", r.data, later)
			_, s := newStore(t, 3, 2)
			puts(t, s, "k", r.data)
			k := openKeys(t, s, "k", seeded(3), 4)
			if later == "dropped" {
				drops(t, s, "k")
			} else {
				puts(t, s, "k", later)
			}
			want := max(r.number, number)
			if want >= 16 {
				refuses(t, what, k, "m", api.ErrExpired)
				left(t, what, k, 0)
				continue
			}
			signs(t, what, k, seeded(3), 4, want, "m")
			left(t, what, k, 15-want)
		}
	}
}

// A store without that name, though with others.
func TestNextLeafOfAnotherName(t *testing.T) {
	_, s := newStore(t, 8, 2)
	for _, name := range []string{"", "K", "kk", "k\x00", "\x00k", " k"} {
		puts(t, s, name, four(3))
	}
	k := openKeys(t, s, "k", seeded(4), 2)
	left(t, "a name that is not there", k, 4)
	signs(t, "a name that is not there", k, seeded(4), 2, 0, "m")
	for _, name := range []string{"", "K", "kk", "k\x00", "\x00k", " k"} {
		has(t, "another name", s, name, four(3))
	}
}

// P12.1: names

func TestNames(t *testing.T) {
	for _, r := range []struct {
		name string
		room int
		fits bool
	}{
		{"", 1, true}, {"k", 1, true}, {"\x00", 1, true}, {"\xff\xfe", 1, true}, {"a,4:\x00", 1, true}, {"1:k,", 1, true}, {"\u00e9\u4e16", 1, true},
		{letters(13), 1, true}, {letters(14), 1, true}, {letters(15), 1, false}, {letters(32), 1, false}, {letters(1000), 1, false},
		{letters(15), 2, true}, {letters(45), 2, true}, {letters(46), 2, true}, {letters(47), 2, false},
		{letters(77), 3, true}, {letters(78), 3, true}, {letters(79), 3, false},
		{letters(1 << 14), 1024, true}, {letters(1<<14 + 1), 1024, false}, {letters(1 << 20), 1024, false}, {letters(1 << 14), 512, false},
	} {
		what := fmt.Sprintf("a name of %d bytes, %.20q, room of %d", len(r.name), r.name, r.room)
		d, s := newStore(t, 3, r.room)
		k := openKeys(t, s, r.name, seeded(5), 1)
		left(t, what, k, 2)
		if !r.fits {
			before := d.Clone()
			for range 2 {
				refuses(t, what, k, "m", api.ErrArg)
				left(t, what, k, 2)
			}
			alike(t, what, d, before)
			continue
		}
		for leaf := range 2 {
			before := d.Writes()
			signs(t, what, k, seeded(5), 1, leaf, nth(leaf))
			has(t, what, s, r.name, four(leaf+1))
			left(t, what, k, 1-leaf)
			if got, want := d.Writes()-before, recordWrites(r.name, leaf > 0); got != want {
				t.Errorf("%s: leaf %d took %d writes, want %d", what, leaf, got, want)
			}
		}
		refuses(t, what, k, "m", api.ErrExpired)
		if names := s.Names(); !slices.Equal(names, []string{r.name}) {
			t.Errorf("%s: the store's names are %.60q", what, names)
		}
		left(t, what+", opened again", openKeys(t, openStore(t, d, 3, r.room), r.name, seeded(5), 1), 0)
	}
}

// P12.1: Print

func TestPrint(t *testing.T) {
	prints := map[api.Hash]bool{}
	for n := range 3 {
		for height := range 5 {
			what := fmt.Sprintf("seed %d, height %d", n, height)
			want, err := mss.Print(seeded(n), height)
			if err != api.OK || want != printed(seeded(n), height) || prints[want] {
				t.Fatalf("%s: mss.Print = %x, %d", what, want, err)
			}
			prints[want] = true
			d, s := newStore(t, 4, 2)
			k := openKeys(t, s, "k", seeded(n), height)
			prints := func(what string) {
				t.Helper()
				if got := k.Print(); got != want {
					t.Errorf("%s: Print = %x, want %x", what, got, want)
				}
			}
			prints(what)
			for leaf := range min(1<<height, 3) {
				m := nth(leaf)
				if sig := signs(t, what, k, seeded(n), height, leaf, m); !mss.Verify(k.Print(), []byte(m), sig) {
					t.Errorf("%s: leaf %d does not verify under Print", what, leaf)
				}
				prints(what + ", behind a Sign")
			}
			puts(t, s, "k", four(1<<20))
			prints(what + ", behind somebody else's Put")
			refuses(t, what, k, "m", api.ErrExpired)
			prints(what + ", with no leaf left")
			drops(t, s, "k")
			prints(what + ", behind a Drop")
			if other := openKeys(t, s, "another", seeded(n), height); other.Print() != want {
				t.Errorf("%s: another name's Print", what)
			}
			d.Stop(0, 0)
			s.Put("k", nil)
			prints(what + ", in a store that has died")
			if late := openKeys(t, s, "k", seeded(n), height); late.Print() != want {
				t.Errorf("%s: Print of a keystore that is opened in a store that has died", what)
			}
		}
	}
}

// Print is of the seed and the height alone: seeds that are nearly so have another one.
func TestPrintOfEachSeed(t *testing.T) {
	_, s := newStore(t, 2, 2)
	all := map[api.Hash]bool{}
	for i := range 16 {
		for _, x := range []byte{1, 0x80} {
			var seed api.Key
			seed[i] = x
			k := openKeys(t, s, "k", seed, 0)
			if got := k.Print(); got != printed(seed, 0) || all[got] {
				t.Errorf("seed %x: Print = %x", seed, got)
			}
			all[k.Print()] = true
		}
	}
}

// P12.1: Left

func TestLeft(t *testing.T) {
	for height, leaves := range []int{1, 2, 4, 8, 16} {
		what := fmt.Sprintf("height %d", height)
		_, s := newStore(t, 3, 2)
		k := openKeys(t, s, "k", seeded(6), height)
		for leaf := range leaves {
			for range 2 {
				left(t, what, k, leaves-leaf)
			}
			signs(t, what, k, seeded(6), height, leaf, nth(leaf))
		}
		for range 3 {
			left(t, what+", all used", k, 0)
			refuses(t, what+", all used", k, "m", api.ErrExpired)
		}
		// Past all leaves it is 0, and not less.
		for _, number := range []int{leaves, leaves + 1, 17, 255, 1 << 16, 1<<32 - 1, 1 << 32, 1<<56 - 1} {
			puts(t, s, "k", string(code.Put(number, 7)))
			left(t, fmt.Sprintf("%s, a number of %d", what, number), k, 0)
			left(t, fmt.Sprintf("%s, a number of %d, opened", what, number), openKeys(t, s, "k", seeded(6), height), 0)
		}
	}
}
