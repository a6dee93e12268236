package keys_test

import (
	"fmt"
	"math/rand"
	"testing"

	"aumbry/api"
	"aumbry/disk"
	"aumbry/keys"
	"aumbry/store"
)

// A long course of calls drawn by chance, with stops in it, against the other maker, which has a disk and a store of its own.

func TestByChance(t *testing.T) {
	told := map[api.Errno]int{}
	for seed := range 150 {
		c := newCourse(t, seed, told)
		for n := range 80 {
			c.step(fmt.Sprintf("course %d, call %d", seed, n))
			if t.Failed() {
				return
			}
		}
		c.end(fmt.Sprintf("course %d, its end", seed))
	}
	for _, err := range []api.Errno{api.OK, api.ErrArg, api.ErrSpace, api.ErrCrash, api.ErrExpired} {
		if told[err] < 50 {
			t.Errorf("the courses have only %d Signs that answer %d", told[err], err)
		}
	}
}

// pair is a keystore, and the other maker of its answers.
type pair struct {
	keys  *keys.Keys
	maker *maker
}

type course struct {
	t           *testing.T
	random      *rand.Rand
	slots, room int
	disk, twin  *disk.Disk
	store, copy *store.Store // on the disk, and on its twin
	open        []pair
	told        map[api.Errno]int // how often a Sign answered what
}

func newCourse(t *testing.T, seed int, told map[api.Errno]int) *course {
	c := &course{t: t, random: rand.New(rand.NewSource(int64(seed))), told: told}
	c.slots, c.room = 2+c.random.Intn(4), 1+c.random.Intn(2)
	c.disk, c.store = newStore(t, c.slots, c.room)
	c.twin, c.copy = newStore(t, c.slots, c.room)
	return c
}

func (c *course) name() string {
	return []string{"k", "k", "k", "", "kk", letters(15), letters(50)}[c.random.Intn(7)]
}

// data are what somebody else puts: numbers near those of leaves, mostly.
func (c *course) data() []byte {
	if c.random.Intn(4) == 0 {
		b := make([]byte, c.random.Intn(12))
		c.random.Read(b)
		return b
	}
	b := make([]byte, 1+c.random.Intn(8))
	b[len(b)-1] = byte(c.random.Intn(10))
	return b
}

func (c *course) step(what string) {
	c.t.Helper()
	switch k := c.random.Intn(24); {
	case len(c.open) == 0 || k < 3:
		c.opens(what)
	case k < 12:
		c.signs(what)
	case k < 15:
		p := c.any()
		left(c.t, what, p.keys, p.maker.left())
	case k == 15:
		p := c.any()
		if p.keys.Print() != printed(p.maker.seed, p.maker.height) {
			c.t.Errorf("%s: another Print", what)
		}
	case k < 18:
		name, data := c.name(), c.data()
		if got, want := c.store.Put(name, data), c.copy.Put(name, data); got != want {
			c.t.Errorf("%s: the stores' Put(%q, %q) = %d, %d", what, name, data, got, want)
		}
	case k < 20:
		name := c.name()
		if got, want := c.store.Drop(name), c.copy.Drop(name); got != want {
			c.t.Errorf("%s: the stores' Drop(%q) = %d, %d", what, name, got, want)
		}
	case k < 22:
		at, keep := c.random.Intn(7), c.random.Intn(36)-2
		c.disk.Stop(at, keep)
		c.twin.Stop(at, keep)
	default:
		c.revive(what)
	}
	alike(c.t, what, c.disk, c.twin)
}

// any is one of the keystores that are open.
func (c *course) any() pair {
	return c.open[c.random.Intn(len(c.open))]
}

// opens opens a keystore of any height, of none too; those of unlike heights and seeds may have one name.
func (c *course) opens(what string) {
	c.t.Helper()
	name, seed, height := c.name(), seeded(200+c.random.Intn(2)), c.random.Intn(5)-1
	if height == -1 && c.random.Intn(2) == 0 {
		height = 5
	}
	k, err := keys.Open(c.store, name, seed, height)
	m := makerOf(c.copy, name, seed, height)
	if m == nil {
		if k != nil || err != api.ErrArg {
			c.t.Errorf("%s: Open(%q, height %d) = %v, %d, want ErrArg", what, name, height, k, err)
		}
		return
	}
	if k == nil || err != api.OK {
		c.t.Fatalf("%s: Open(%q, height %d) = %v, %d, want a keystore", what, name, height, k, err)
	}
	if len(c.open) == 5 {
		c.open = c.open[1:]
	}
	c.open = append(c.open, pair{k, m})
}

func (c *course) signs(what string) {
	c.t.Helper()
	p := c.any()
	message := make([]byte, c.random.Intn(40))
	c.random.Read(message)
	got, err := p.keys.Sign(message)
	want, wants := p.maker.sign(message)
	if err != wants || !same(got, want) {
		c.t.Errorf("%s: Sign of name %q, height %d = leaf %d, %d, want leaf %d, %d", what, p.maker.name, p.maker.height, got.Leaf, err, want.Leaf, wants)
	}
	c.told[err]++
}

// revive starts a disk that died and opens it again, while it stops, at times; the keystores in the store that died stay.
func (c *course) revive(what string) {
	c.t.Helper()
	for c.disk.Dead() {
		c.disk.Start()
		c.twin.Start()
		if c.random.Intn(3) == 0 {
			at, keep := c.random.Intn(2), c.random.Intn(33)
			c.disk.Stop(at, keep)
			c.twin.Stop(at, keep)
		}
		s, err := store.Open(c.disk, c.slots, c.room)
		other, wants := store.Open(c.twin, c.slots, c.room)
		if err != wants {
			c.t.Errorf("%s: store.Open = %d, %d", what, err, wants)
		}
		if err == api.OK {
			c.store, c.copy = s, other
		}
	}
}

// end holds what is left of all that were open.
func (c *course) end(what string) {
	c.t.Helper()
	for _, p := range c.open {
		left(c.t, what, p.keys, p.maker.left())
	}
	for _, name := range []string{"k", "", "kk", letters(15), letters(50)} {
		got, ok := c.store.Get(name)
		want, there := c.copy.Get(name)
		if ok != there || string(got) != string(want) {
			c.t.Errorf("%s: the store has %q, %t for %q, want %q, %t", what, got, ok, name, want, there)
		}
	}
	alike(c.t, what, c.disk, c.twin)
}
