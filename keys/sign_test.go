package keys_test

import (
	"fmt"
	"slices"
	"strings"
	"testing"

	"aumbry/api"
	"aumbry/disk"
	"aumbry/keys"
	"aumbry/mss"
	"aumbry/store"
)

// P12.1: Sign

// Each leaf signs once, in order; the store has the next one's number behind it, written as its own Put writes it.
func TestSign(t *testing.T) {
	for height, leaves := range []int{1, 2, 4, 8, 16} {
		for _, name := range []string{"k", "", letters(14), letters(15), letters(40)} {
			what := fmt.Sprintf("height %d, name %q", height, name)
			d, s := newStore(t, 3, 3)
			twin, other := newStore(t, 3, 3)
			puts(t, s, "beside", "x")
			puts(t, other, "beside", "x")
			k := openKeys(t, s, name, seeded(7), height)
			for leaf := range leaves {
				before := d.Writes()
				signs(t, what, k, seeded(7), height, leaf, nth(leaf))
				puts(t, other, name, four(leaf+1))
				alike(t, fmt.Sprintf("%s, leaf %d", what, leaf), d, twin)
				has(t, what, s, name, four(leaf+1))
				if got, want := d.Writes()-before, recordWrites(name, leaf > 0); got != want {
					t.Errorf("%s: leaf %d took %d writes, want %d", what, leaf, got, want)
				}
			}
			for range 3 {
				refuses(t, what, k, "m", api.ErrExpired)
				refuses(t, what, k, nth(0), api.ErrExpired)
			}
			alike(t, what+", all used", d, twin)
			has(t, what, s, "beside", "x")
		}
	}
}

// How many sectors a Sign takes, written out.
func TestWritesOfSign(t *testing.T) {
	for _, r := range []struct{ length, first, later int }{{0, 2, 3}, {1, 2, 3}, {14, 2, 3}, {15, 3, 4}, {46, 3, 4}, {47, 4, 5}, {78, 4, 5}} {
		d, s := newStore(t, 2, 3)
		k := openKeys(t, s, letters(r.length), seeded(7), 2)
		for leaf, want := range []int{r.first, r.later, r.later, r.later, 0} {
			before := d.Writes()
			k.Sign(nil)
			if got := d.Writes() - before; got != want {
				t.Errorf("a name of %d bytes: leaf %d took %d writes, want %d", r.length, leaf, got, want)
			}
		}
	}
}

// The same message twice, or another one's beginning, is a message like each.
func TestSameMessageAgain(t *testing.T) {
	_, s := newStore(t, 3, 2)
	k := openKeys(t, s, "k", seeded(8), 2)
	for leaf, m := range []string{"m", "m", "mm", "m"} {
		signs(t, "the same message", k, seeded(8), 2, leaf, m)
	}
	refuses(t, "the same message", k, "m", api.ErrExpired)
}

func TestMessages(t *testing.T) {
	for _, m := range []string{"", "\x00", "m", "0:,", letters(31), letters(32), letters(64), letters(1 << 14), letters(1<<14 + 1), letters(1 << 20), strings.Repeat("\x00", 1<<17+3)} {
		_, s := newStore(t, 2, 1)
		k := openKeys(t, s, "k", seeded(8), 1)
		for leaf := range 2 {
			signs(t, fmt.Sprintf("a message of %d bytes", len(m)), k, seeded(8), 1, leaf, m)
			has(t, "a message", s, "k", four(leaf+1))
		}
	}
}

// nil and the empty message are the same.
func TestNilAndEmpty(t *testing.T) {
	var all []api.Sig
	for _, m := range [][]byte{nil, {}, make([]byte, 0, 9)} {
		_, s := newStore(t, 2, 1)
		sig, err := openKeys(t, s, "k", seeded(8), 1).Sign(m)
		if err != api.OK || !mss.Verify(printed(seeded(8), 1), nil, sig) {
			t.Errorf("Sign of nothing = %d", err)
		}
		all = append(all, sig)
	}
	if !same(all[0], all[1]) || !same(all[0], all[2]) {
		t.Error("nil is another message than the empty one")
	}
}

// P12.1: errors

// ErrExpired is named ahead of what the store's Put would answer, and nothing is written.
func TestExpired(t *testing.T) {
	for height := range 3 {
		d, s := newStore(t, 2, 1)
		k := openKeys(t, s, "k", seeded(9), height)
		for leaf := range 1 << height {
			signs(t, "ahead", k, seeded(9), height, leaf, "m")
		}
		before := d.Clone()
		d.Stop(0, 32)
		refuses(t, "a write that is to tear", k, "m", api.ErrExpired)
		alike(t, "a write that is to tear", d, before)
		d.Start()
		puts(t, s, "beside", "")
		if err := s.Put("more", nil); err != api.ErrSpace {
			t.Fatalf("a full store's Put = %d", err)
		}
		before = d.Clone()
		refuses(t, "a full store", k, "m", api.ErrExpired)
		alike(t, "a full store", d, before)
		d.Stop(0, 0)
		if err := s.Drop("beside"); err != api.ErrCrash {
			t.Fatalf("Drop = %d", err)
		}
		refuses(t, "a store that has died", k, "m", api.ErrExpired)
		left(t, "a store that has died", k, 0)
	}
}

// A number past all leaves, under a name that the store may not write again.
func TestExpiredOfAFullStore(t *testing.T) {
	_, s := newStore(t, 1, 2)
	puts(t, s, letters(40), "\x02")
	refuses(t, "a full store", openKeys(t, s, letters(40), seeded(9), 1), "m", api.ErrExpired)
	refuses(t, "a full store", openKeys(t, s, letters(40), seeded(9), 2), "m", api.ErrSpace)
}

// A name that does not fit with four bytes, though the store has it with fewer.
func TestNameThatFitsWithFewerBytes(t *testing.T) {
	name := letters(15)
	for _, r := range []struct {
		data string
		want api.Errno
		left int
	}{{"", api.ErrArg, 4}, {"\x01", api.ErrArg, 3}, {"\x00\x03", api.ErrArg, 1}, {"\x04", api.ErrExpired, 0}, {"\x01\x02", api.ErrExpired, 0}} {
		d, s := newStore(t, 3, 1)
		puts(t, s, name, r.data)
		before := d.Clone()
		k := openKeys(t, s, name, seeded(9), 2)
		for range 2 {
			refuses(t, "a name that does not fit", k, "m", r.want)
			left(t, "a name that does not fit", k, r.left)
		}
		alike(t, "a name that does not fit", d, before)
		has(t, "a name that does not fit", s, name, r.data)
	}
}

// In a full store no leaf is used: the same one signs as soon as there is room.
func TestNoSpace(t *testing.T) {
	for used := range 4 {
		for _, slots := range []int{2, 3, 5} {
			what := fmt.Sprintf("a full store of %d slots, %d leaves used", slots, used)
			d, s := newStore(t, slots, 1)
			k := openKeys(t, s, "k", seeded(10), 2)
			for leaf := range used {
				signs(t, what, k, seeded(10), 2, leaf, nth(leaf))
			}
			for n := 0; s.Free() > 0; n++ {
				puts(t, s, fmt.Sprint("beside ", n), "")
			}
			before := d.Clone()
			for range 3 {
				refuses(t, what, k, "refused", api.ErrSpace)
				left(t, what, k, 4-used)
			}
			alike(t, what, d, before)
			if used > 0 {
				has(t, what, s, "k", four(used))
			} else {
				lacks(t, what, s, "k")
			}
			drops(t, s, "beside 0")
			signs(t, what+", with room", k, seeded(10), 2, used, "m")
			left(t, what+", with room", k, 3-used)
		}
	}
}

// In a store that has died Sign hands its error up, whatever the name; no leaf is used.
func TestStoreThatHasDied(t *testing.T) {
	for _, name := range []string{"k", "", letters(100)} {
		for used := range 3 {
			what := fmt.Sprintf("a store that has died, name %.10q, %d leaves used", name, used)
			d, s := newStore(t, 4, 1)
			k := openKeys(t, s, name, seeded(10), 2)
			if len(name) < 100 {
				for leaf := range used {
					signs(t, what, k, seeded(10), 2, leaf, nth(leaf))
				}
			} else if used > 0 {
				continue
			}
			d.Stop(0, 0)
			if err := s.Put("beside", nil); err != api.ErrCrash {
				t.Fatalf("Put = %d", err)
			}
			for _, starts := range []bool{false, true} {
				if starts {
					d.Start()
				}
				before := d.Clone()
				for range 2 {
					refuses(t, what, k, "m", api.ErrCrash)
					left(t, what, k, 4-used)
				}
				late := openKeys(t, s, name, seeded(10), 2)
				left(t, what+", opened in it", late, 4)
				refuses(t, what+", opened in it", late, "m", api.ErrCrash)
				left(t, what+", opened in it", late, 4)
				alike(t, what, d, before)
			}
		}
	}
}

// P12.1: several keystores

func TestTurnByTurn(t *testing.T) {
	for turns := range 1 << 5 {
		_, s := newStore(t, 3, 1)
		two := []*keys.Keys{openKeys(t, s, "k", seeded(11), 2), openKeys(t, s, "k", seeded(11), 2)}
		for leaf := range 4 {
			what := fmt.Sprintf("turns %b, leaf %d", turns, leaf)
			// In half of the courses Left is never asked: Sign must look for itself.
			if turns >= 1<<4 {
				left(t, what, two[leaf%2], 4-leaf)
			}
			signs(t, what, two[turns>>leaf&1], seeded(11), 2, leaf, nth(leaf))
			has(t, what, s, "k", four(leaf+1))
		}
		for _, k := range two {
			refuses(t, "all used", k, "m", api.ErrExpired)
			left(t, "all used", k, 0)
		}
	}
}

// What one keystore signed the other one's Left counts, though that never signed.
func TestLeftOfTheOther(t *testing.T) {
	_, s := newStore(t, 3, 1)
	a, b := openKeys(t, s, "k", seeded(11), 3), openKeys(t, s, "k", seeded(11), 3)
	for leaf := range 8 {
		signs(t, "one", a, seeded(11), 3, leaf, nth(leaf))
		left(t, "the other one", b, 7-leaf)
		left(t, "one", a, 7-leaf)
	}
	refuses(t, "the other one", b, "m", api.ErrExpired)
}

// Of one name are also those of other seeds and heights.
func TestOneNameOfUnlikeTrees(t *testing.T) {
	_, s := newStore(t, 3, 1)
	low, high, other := openKeys(t, s, "k", seeded(12), 1), openKeys(t, s, "k", seeded(12), 3), openKeys(t, s, "k", seeded(13), 2)
	signs(t, "height 3", high, seeded(12), 3, 0, "a")
	signs(t, "height 1", low, seeded(12), 1, 1, "b")
	refuses(t, "height 1", low, "c", api.ErrExpired)
	signs(t, "another seed", other, seeded(13), 2, 2, "d")
	left(t, "height 3", high, 5)
	signs(t, "height 3", high, seeded(12), 3, 3, "e")
	refuses(t, "another seed", other, "f", api.ErrExpired)
	for leaf := range 4 {
		signs(t, "height 3", high, seeded(12), 3, 4+leaf, nth(leaf))
		left(t, "height 1", low, 0)
		left(t, "another seed", other, 0)
	}
	has(t, "all used", s, "k", four(8))
}

func TestUnlikeNames(t *testing.T) {
	names := []string{"k", "", "K", "kk", "k\x00", letters(14)}
	_, s := newStore(t, 7, 1)
	var all []*keys.Keys
	for n, name := range names {
		// All seeds but one are the same: the name alone keeps them apart.
		all = append(all, openKeys(t, s, name, seeded(n/5), 2))
	}
	for leaf := range 4 {
		for n, k := range all {
			what := fmt.Sprintf("name %q", names[n])
			left(t, what, k, 4-leaf)
			signs(t, what, k, seeded(n/5), 2, leaf, nth(10*n+leaf))
			has(t, what, s, names[n], four(leaf+1))
			for later := n + 1; later < len(all); later++ {
				left(t, "another name", all[later], 4-leaf)
			}
		}
	}
	slices.Sort(names)
	if got := s.Names(); !slices.Equal(got, names) {
		t.Errorf("the store's names are %q", got)
	}
}

// One keystore that has signed all its leaves leaves another name's alone.
func TestOneNameExpired(t *testing.T) {
	_, s := newStore(t, 4, 1)
	a, b := openKeys(t, s, "a", seeded(14), 1), openKeys(t, s, "b", seeded(14), 1)
	signs(t, "a", a, seeded(14), 1, 0, "x")
	signs(t, "a", a, seeded(14), 1, 1, "y")
	refuses(t, "a", a, "z", api.ErrExpired)
	left(t, "b", b, 2)
	signs(t, "b", b, seeded(14), 1, 0, "x")
	left(t, "a", a, 0)
}

// Two stores know nothing of each other.
func TestUnlikeStores(t *testing.T) {
	_, s := newStore(t, 3, 1)
	_, other := newStore(t, 3, 1)
	a, b := openKeys(t, s, "k", seeded(14), 2), openKeys(t, other, "k", seeded(14), 2)
	for leaf := range 4 {
		signs(t, "one store", a, seeded(14), 2, leaf, "m")
		left(t, "another store", b, 4)
	}
	signs(t, "another store", b, seeded(14), 2, 0, "m")
}

// The same seed and name opened again, in the same store and in the disk's.
func TestOpenedAgain(t *testing.T) {
	for _, anew := range []bool{false, true} {
		d, s := newStore(t, 3, 2)
		for leaf := range 16 {
			what := fmt.Sprintf("opened again (the store as well: %t), leaf %d", anew, leaf)
			if anew {
				s = openStore(t, d, 3, 2)
			}
			k := openKeys(t, s, "k", seeded(15), 4)
			left(t, what, k, 16-leaf)
			signs(t, what, k, seeded(15), 4, leaf, nth(leaf))
		}
		refuses(t, "opened again", openKeys(t, s, "k", seeded(15), 4), "m", api.ErrExpired)
	}
}

// P12.1: somebody else writes that name

// other is what somebody else does to the store, and the number that is there behind it.
type other struct {
	what   string
	do     func(t *testing.T, s *store.Store)
	number int
}

func putting(data string, number int) other {
	return other{fmt.Sprintf("Put of %q", data), func(t *testing.T, s *store.Store) { t.Helper(); puts(t, s, "k", data) }, number}
}

func others() []other {
	l := []other{{"Drop", func(t *testing.T, s *store.Store) { t.Helper(); drops(t, s, "k") }, 0}}
	for _, r := range numbers() {
		l = append(l, putting(r.data, r.number))
	}
	for _, number := range []int{0, 1, 2, 3, 4, 5, 6, 7, 8, 9} {
		l = append(l, putting(four(number), number))
	}
	return l
}

func TestSomebodyElse(t *testing.T) {
	for _, o := range others() {
		for _, used := range []int{1, 3, 4} {
			for _, asks := range []bool{false, true} {
				what := fmt.Sprintf("%d leaves used, then %s", used, o.what)
				d, s := newStore(t, 3, 2)
				puts(t, s, "k", four(used-1))
				k := openKeys(t, s, "k", seeded(16), 2)
				signs(t, what, k, seeded(16), 2, used-1, "m")
				o.do(t, s)
				next := max(used, o.number)
				if asks {
					left(t, what, k, max(4-next, 0))
				}
				if next >= 4 {
					before := d.Clone()
					refuses(t, what, k, "n", api.ErrExpired)
					alike(t, what, d, before)
					left(t, what, k, 0)
					continue
				}
				signs(t, what, k, seeded(16), 2, next, "n")
				has(t, what, s, "k", four(next+1))
				left(t, what, k, 3-next)
			}
		}
	}
}

// What a keystore met before a Left or a Sign it knows from then on, though the name be dropped; Print asks nothing of the store.
func TestWhatIsKnownStays(t *testing.T) {
	for _, r := range []struct {
		what string
		call func(k *keys.Keys)
		next int
	}{
		{"nothing", func(k *keys.Keys) {}, 1},
		{"Print", func(k *keys.Keys) { k.Print() }, 1},
		{"Left", func(k *keys.Keys) { k.Left() }, 5},
		{"a Sign that is refused", func(k *keys.Keys) { refuses(t, "a full store", k, "m", api.ErrSpace) }, 5},
	} {
		for _, behind := range []string{"dropped", four(2), strings.Repeat("\xff", 8)} {
			_, s := newStore(t, 3, 2)
			k := openKeys(t, s, "k", seeded(17), 3)
			signs(t, "ahead", k, seeded(17), 3, 0, "m")
			puts(t, s, "k", four(5))
			puts(t, s, "x", "")
			puts(t, s, "y", "")
			r.call(k)
			drops(t, s, "x")
			drops(t, s, "k")
			next := r.next
			if behind != "dropped" {
				puts(t, s, "k", behind)
			}
			if behind == four(2) {
				next = max(next, 2)
			}
			signs(t, fmt.Sprintf("met before %s, then %q", r.what, behind), k, seeded(17), 3, next, "n")
		}
	}
}

// Also where none is left: a keystore that met a number past all leaves signs nothing more.
func TestExpiredStays(t *testing.T) {
	for _, asks := range []func(k *keys.Keys){
		func(k *keys.Keys) { left(t, "past all leaves", k, 0) },
		func(k *keys.Keys) { refuses(t, "past all leaves", k, "m", api.ErrExpired) },
	} {
		for _, number := range []string{"\x02", "\xff", "\x01\x00\x00\x00\x00", strings.Repeat("\xff", 7)} {
			_, s := newStore(t, 3, 2)
			k := openKeys(t, s, "k", seeded(17), 1)
			puts(t, s, "k", number)
			asks(k)
			drops(t, s, "k")
			left(t, "past all leaves, then dropped", k, 0)
			refuses(t, "past all leaves, then dropped", k, "m", api.ErrExpired)
			lacks(t, "past all leaves, then dropped", s, "k")
			left(t, "opened anew", openKeys(t, s, "k", seeded(17), 1), 2)
		}
	}
}

// The chapter's example.
func TestExample(t *testing.T) {
	for n := range 3 {
		d, err := disk.New(6)
		if err != api.OK {
			t.Fatal(err)
		}
		k := openKeys(t, openStore(t, d, 2, 2), "name", seeded(n), 0)
		left(t, "the example", k, 1)
		signs(t, "the example", k, seeded(n), 0, 0, "message")
		refuses(t, "the example", k, "message", api.ErrExpired)
		refuses(t, "the example", k, "another", api.ErrExpired)
		left(t, "the example", k, 0)
	}
}
