package keys_test

import (
	"fmt"
	"math"
	"math/rand"
	"testing"

	"aumbry/api"
	"aumbry/disk"
	"aumbry/keys"
	"aumbry/store"
)

// P12.1, P12.2: a Sign, wherever the disk stops

const slots, room = 4, 2 // of the stores here

// keeps are numbers of bytes that may be asked to be kept of a torn write.
func keeps() []int {
	l := []int{math.MinInt, -1}
	for keep := range api.Sector + 1 {
		l = append(l, keep)
	}
	return append(l, api.Sector+1, math.MaxInt)
}

// base is a disk whose store has so many leaves of a name as used, and other names beside.
func base(t *testing.T, name string, used, beside int) *disk.Disk {
	t.Helper()
	d, s := newStore(t, slots, room)
	for n := range beside {
		puts(t, s, fmt.Sprint("beside ", n), "x")
	}
	if used > 0 {
		puts(t, s, name, four(used))
	}
	return d
}

// TestStopInSign has each write of a Sign torn, with each number of bytes kept.
func TestStopInSign(t *testing.T) {
	for _, name := range []string{"k", letters(15)} {
		for _, used := range []int{0, 1, 2} {
			for _, beside := range []int{0, 2} {
				writes := recordWrites(name, used > 0)
				for at := range writes + 1 {
					for _, keep := range keeps() {
						stops(t, name, used, beside, at, keep, at == writes)
					}
				}
			}
		}
	}
}

// stops lets the disk stop behind so many writes of a Sign, which ends ahead of that or not.
func stops(t *testing.T, name string, used, beside, at, keep int, ends bool) {
	t.Helper()
	what := fmt.Sprintf("name %.15q, %d leaves used, %d beside, Stop(%d, %d)", name, used, beside, at, keep)
	d := base(t, name, used, beside)
	k := openKeys(t, openStore(t, d, slots, room), name, seeded(20), 1)
	before := d.Writes()
	d.Stop(at, keep)
	if used == 2 {
		refuses(t, what, k, "m", api.ErrExpired)
		if d.Dead() || d.Writes() != before {
			t.Errorf("%s: ErrExpired, but there was a write", what)
		}
		return
	}
	if ends {
		signs(t, what, k, seeded(20), 1, used, "m")
		left(t, what, k, 1-used)
		return
	}
	refuses(t, what, k, "m", api.ErrCrash)
	if d.Writes() != before+at || !d.Dead() {
		t.Errorf("%s: the disk's Writes, Dead = %d, %t, want %d, true", what, d.Writes()-before, d.Dead(), at)
	}
	hasDied(t, what, k, d, used)
	d.Start()
	hasDied(t, what+", behind Start", k, d, used)
	// The leaf counts as used from the state's write on, which is there as soon as one byte of it is.
	state := recordWrites(name, false) - 1
	next := used
	if at > state || at == state && keep > 0 {
		next++
	}
	goesOn(t, what, d.Clone(), name, next)
	hasDied(t, what+", opened again beside it", k, d, used)
}

// hasDied holds what all calls of a keystore answer whose store died when so many leaves were used, and that none of them writes.
func hasDied(t *testing.T, what string, k *keys.Keys, d *disk.Disk, used int) {
	t.Helper()
	before := d.Clone()
	for range 2 {
		refuses(t, what, k, "m", api.ErrCrash)
		refuses(t, what, k, "another", api.ErrCrash)
		left(t, what, k, 2-used)
	}
	if k.Print() != printed(seeded(20), 1) {
		t.Errorf("%s: another Print", what)
	}
	alike(t, what, d, before)
}

// goesOn opens the disk again and holds which leaf is next: it, and no other one, signs.
func goesOn(t *testing.T, what string, d *disk.Disk, name string, next int) {
	t.Helper()
	// The store is opened while the disk stops again; where it has nothing to free, it opens well.
	for _, keep := range []int{0, 32} {
		d.Stop(0, keep)
		if s, err := store.Open(d, slots, room); err == api.OK {
			left(t, what+", opened ahead of a stop", openKeys(t, s, name, seeded(20), 1), 2-next)
		}
		d.Start()
	}
	s := openStore(t, d, slots, room)
	k, again := openKeys(t, s, name, seeded(20), 1), openKeys(t, s, name, seeded(20), 1)
	left(t, what+", opened again", k, 2-next)
	if next > 0 {
		has(t, what+", opened again", s, name, four(next))
	} else {
		lacks(t, what+", opened again", s, name)
	}
	for leaf := next; leaf < 2; leaf++ {
		signs(t, what+", opened again", k, seeded(20), 1, leaf, nth(leaf))
		has(t, what+", opened again", s, name, four(leaf+1))
	}
	refuses(t, what+", opened again", k, "m", api.ErrExpired)
	refuses(t, what+", opened again", again, "m", api.ErrExpired)
}

// Which leaf is next behind each stop, written out: of a new name, and of one that the store has.
func TestStopWrittenOut(t *testing.T) {
	for _, r := range []struct{ used, at, keep, next int }{
		{0, 0, 0, 0}, {0, 0, 32, 0}, {0, 1, 0, 0}, {0, 1, 1, 1}, {0, 1, 32, 1},
		{3, 0, 0, 3}, {3, 0, 32, 3}, {3, 1, 0, 3}, {3, 1, 1, 4}, {3, 1, 32, 4}, {3, 2, 0, 4}, {3, 2, 1, 4}, {3, 2, 32, 4},
		{15, 1, 0, 15}, {15, 1, 1, 16}, {15, 2, 0, 16}, {15, 2, 1, 16},
	} {
		what := fmt.Sprintf("%d leaves used, Stop(%d, %d)", r.used, r.at, r.keep)
		d := base(t, "k", r.used, 1)
		k := openKeys(t, openStore(t, d, slots, room), "k", seeded(21), 4)
		d.Stop(r.at, r.keep)
		refuses(t, what, k, "m", api.ErrCrash)
		left(t, what, k, 16-r.used)
		d.Start()
		k = openKeys(t, openStore(t, d, slots, room), "k", seeded(21), 4)
		left(t, what, k, 16-r.next)
		if r.next == 16 {
			refuses(t, what, k, "m", api.ErrExpired)
			continue
		}
		signs(t, what, k, seeded(21), 4, r.next, "m")
	}
}

// Each Sign with its disk stopping at the same write: from the state's on each one uses up a leaf, till none is left.
func TestStopInEachSign(t *testing.T) {
	for _, r := range []struct {
		at, keep int
		uses     bool
	}{{0, 0, false}, {0, 32, false}, {1, 0, false}, {1, 1, true}, {1, 32, true}, {2, 0, true}, {2, 32, true}} {
		d, next := base(t, "k", 1, 0), 1
		for n := range 6 {
			what := fmt.Sprintf("Stop(%d, %d), Sign %d", r.at, r.keep, n)
			k := openKeys(t, openStore(t, d, slots, room), "k", seeded(22), 2)
			left(t, what, k, 4-next)
			d.Stop(r.at, r.keep)
			if next == 4 {
				refuses(t, what, k, nth(n), api.ErrExpired)
			} else {
				refuses(t, what, k, nth(n), api.ErrCrash)
			}
			if r.uses {
				next = min(next+1, 4)
			}
			d.Start()
		}
	}
}

// P12.2: no leaf signs two unlike messages

// history is what was signed, by whichever keystore.
type history map[place]string

// add takes a signature in; it tells whether its leaf had signed nothing.
func (h history) add(seed api.Key, sig api.Sig, message string) bool {
	at := place{seed, sig.Leaf}
	_, ok := h[at]
	h[at] = message
	return !ok
}

// Long courses of signatures with stops in them, by keystores that are opened again and again, several at once.
func TestNoLeafSignsTwice(t *testing.T) {
	signed, spent := 0, 0
	for n := range 40 {
		seed, height := seeded(100+n), 3+n%2
		r := rand.New(rand.NewSource(int64(n)))
		d, s := newStore(t, slots, room)
		h := history{}
		var open []*keys.Keys
		for call := range 60 {
			what := fmt.Sprintf("course %d, call %d", n, call)
			if len(open) == 0 || r.Intn(6) == 0 {
				open = append(open, openKeys(t, s, "k", seed, height))
			}
			disturb(d, s, r)
			sig, err := open[r.Intn(len(open))].Sign([]byte(nth(call)))
			if err == api.OK {
				signed++
				if !same(sig, signature(seed, height, sig.Leaf, []byte(nth(call)))) || !h.add(seed, sig, nth(call)) {
					t.Fatalf("%s: leaf %d of height %d signs again, or not just that", what, sig.Leaf, sig.Height)
				}
			} else if !isNone(sig) {
				t.Fatalf("%s: Sign = %v, %d", what, sig, err)
			}
			if d.Dead() {
				s = revive(d, r)
				// One of the keystores whose store died is asked later on as well.
				open = open[:1]
			}
		}
		d.Start()
		spent += 1<<height - openKeys(t, openStore(t, d, slots, room), "k", seed, height).Left()
	}
	if signed < 200 || spent < signed+50 {
		t.Errorf("%d leaves signed, %d are used: the courses have too few signatures, or stops", signed, spent)
	}
}

// disturb lets the disk stop somewhere, and somebody else fill the store, or make room, now and then.
func disturb(d *disk.Disk, s *store.Store, r *rand.Rand) {
	if r.Intn(2) == 0 {
		d.Stop(r.Intn(7), r.Intn(36)-2)
	}
	switch r.Intn(8) {
	case 0:
		s.Put(fmt.Sprint("beside ", r.Intn(3)), nil)
	case 1, 2:
		s.Drop(fmt.Sprint("beside ", r.Intn(3)))
	}
}

// revive starts a disk that died, and opens it, with stops meanwhile.
func revive(d *disk.Disk, r *rand.Rand) *store.Store {
	for {
		d.Start()
		if r.Intn(2) == 0 {
			d.Stop(r.Intn(3), r.Intn(33))
		}
		if s, err := store.Open(d, slots, room); err == api.OK {
			return s
		}
	}
}
