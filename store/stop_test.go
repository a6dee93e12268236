package store_test

import (
	"fmt"
	"maps"
	"math"
	"math/rand"
	"slices"
	"testing"

	"aumbry/api"
	"aumbry/disk"
	"aumbry/store"
)

// keeps are numbers of bytes that may be asked to be kept of a torn write.
func keeps() []int {
	some := []int{math.MinInt, -1}
	for keep := range api.Sector + 1 {
		some = append(some, keep)
	}
	return append(some, api.Sector+1, math.MaxInt)
}

// records are a store's, by name.
func records(s *store.Store) map[string]string {
	all := map[string]string{}
	for _, name := range s.Names() {
		b, _ := s.Get(name)
		all[name] = string(b)
	}
	return all
}

// call is one that writes, as the store makes it and as the other maker does.
type call struct {
	what  string
	name  string
	store func(s *store.Store) api.Errno
	maker func(m *maker) api.Errno
	data  string // what the name has behind it
	drops bool
}

func putCall(name, data string) call {
	return call{
		what: fmt.Sprintf("Put(%q, %d bytes)", name, len(data)), name: name, data: data,
		store: func(s *store.Store) api.Errno { return s.Put(name, []byte(data)) },
		maker: func(m *maker) api.Errno { return m.put(name, []byte(data)) },
	}
}

func dropCall(name string) call {
	return call{
		what: fmt.Sprintf("Drop(%q)", name), name: name, drops: true,
		store: func(s *store.Store) api.Errno { return s.Drop(name) },
		maker: func(m *maker) api.Errno { return m.drop(name) },
	}
}

// hasDied holds what all calls of a store that has died answer, and that none of them writes.
func hasDied(t *testing.T, what string, s *store.Store, d *disk.Disk, room int, names ...string) {
	t.Helper()
	m := makerOf(d, 1, d.Len()-1)
	fits := maker{room: room}
	for range 2 {
		for _, name := range append(names, "", "none", letters(40)) {
			for _, length := range []int{0, 1, 17, 18, 19, 49, 50, 1000} {
				data := make([]byte, length)
				if err := s.Put(name, data); err != api.ErrCrash {
					t.Errorf("%s: the store has died, Put(%q, %d bytes) = %d, want ErrCrash", what, name, length, err)
				}
				if got := s.Fits(name, data); got != fits.fits(name, data) {
					t.Errorf("%s: the store has died, Fits(%q, %d bytes) = %t", what, name, length, got)
				}
			}
			if err := s.Drop(name); err != api.ErrCrash {
				t.Errorf("%s: the store has died, Drop(%q) = %d, want ErrCrash", what, name, err)
			}
			if b, ok := s.Get(name); ok || len(b) != 0 {
				t.Errorf("%s: the store has died, Get(%q) = %q, %t", what, name, b, ok)
			}
		}
		if names, free := s.Names(), s.Free(); len(names) != 0 || free != 0 {
			t.Errorf("%s: the store has died, Names, Free = %q, %d", what, names, free)
		}
	}
	stands(t, what+", the store has died", d, m)
}

// bases are disks with stores of 4 slots and room for 2 sectors.
func bases(t *testing.T) []*disk.Disk {
	a, b, c := record("a", 3, "first"), record("b", 300, letters(30)), record("", 0, "")
	gone := laid(t, 4, 2, "", a, "", b)
	// What was freed still stands there: greater numbers of the same names.
	lay(t, gone, 1, record("a", 9, "once"))
	lay(t, gone, 7, record("b", 999, "once"))
	return []*disk.Disk{
		newDisk(t, 4, 2), junkDisk(t, 4, 2), laid(t, 4, 2, a), laid(t, 4, 2, "", b, a), laid(t, 4, 2, a, b, c), laid(t, 4, 2, c, "", a, b), laid(t, 4, 2, "", c, b, a), gone,
	}
}

// calls are calls that write.
func calls() []call {
	return []call{
		putCall("a", "new"), putCall("a", ""), putCall("a", letters(17)), putCall("a", letters(18)), putCall("a", letters(49)), putCall("b", letters(30)), putCall("", "of no name"), putCall("new", letters(20)), putCall("n", ""),
		dropCall("a"), dropCall("b"), dropCall(""),
	}
}

// P11.2, P11.4: a Put and a Drop, wherever the disk stops

func TestStopInCalls(t *testing.T) {
	for n, base := range bases(t) {
		for _, c := range calls() {
			before := records(opened(t, base.Clone(), 4, 2))
			if _, there := before[c.name]; c.drops && !there {
				continue
			}
			for at := 0; ; at++ {
				if at > 5 {
					t.Fatalf("disk %d, %s: more than 5 writes", n, c.what)
				}
				if stopsWell(t, fmt.Sprintf("disk %d, Stop(%d, ..), %s", n, at, c.what), base, c, at, before) {
					break
				}
			}
		}
	}
}

// stopsWell lets the disk stop behind so many writes of a call, with each number of bytes that the torn one keeps; it tells whether the call ended ahead of that.
func stopsWell(t *testing.T, what string, base *disk.Disk, c call, at int, before map[string]string) bool {
	t.Helper()
	ended := false
	for _, keep := range keeps() {
		d := base.Clone()
		s, m := opened(t, d, 4, 2), makerOf(base, 4, 2)
		d.Stop(at, keep)
		m.stop(at, keep)
		err := c.store(s)
		if want := c.maker(m); err != want || err != api.OK && err != api.ErrCrash {
			t.Fatalf("%s, %d bytes kept: %d, want %d", what, keep, err, want)
		}
		stands(t, what, d, m)
		ended = err == api.OK
		if ended {
			holds(t, what, s, d, m, "a", "b", "", "n", "new")
		} else {
			hasDied(t, what, s, d, 2, "a", "b", "n", "new")
			d.Start()
			hasDied(t, what+", behind Start", s, d, 2, "a", "b", "n", "new")
			m.start()
		}
		opensAgain(t, what, d, m, c, before, ended)
	}
	return ended
}

// opensAgain opens the disk again and again, with the disk stopping meanwhile, and holds what stands there.
func opensAgain(t *testing.T, what string, d *disk.Disk, m *maker, c call, before map[string]string, ended bool) {
	t.Helper()
	d.Start()
	m.start()
	after := maps.Clone(before)
	after[c.name] = c.data
	if c.drops {
		delete(after, c.name)
	}
	for _, keep := range []int{0, 1, 32} {
		e, k := d.Clone(), m.clone()
		e.Stop(0, keep)
		k.stop(0, keep)
		s, err := store.Open(e, 4, 2)
		if want := k.open(); err != want || (s != nil) != (want == api.OK) {
			t.Fatalf("%s, opened with the disk stopping: %v, %d, want %d", what, s, err, want)
		}
		stands(t, what+", opened with the disk stopping", e, k)
		e.Start()
		k.start()
		k.open()
		s = opened(t, e, 4, 2)
		holds(t, what+", opened again", s, e, k, "a", "b", "", "n", "new")
		got := records(s)
		// The elder data or the new ones: the data or none. All other names as they were.
		if !maps.Equal(got, after) && (ended || !maps.Equal(got, before)) {
			t.Errorf("%s, opened again: %q, want %q or %q", what, got, before, after)
		}
		holds(t, what+", opened once more", opened(t, e, 4, 2), e, k, "a", "b", "", "n", "new")
		if !maps.Equal(got, records(opened(t, d.Clone(), 4, 2))) {
			t.Errorf("%s: opened with the disk stopping there are other records", what)
		}
		if want := 4 - len(got); s.Free() != want {
			t.Errorf("%s, opened again: Free = %d, want %d", what, s.Free(), want)
		}
	}
}

// What is there behind each stop, written out: till the state is 1 the elder data, from then on the new ones.
func TestStopWrittenOut(t *testing.T) {
	base := laid(t, 3, 2, record("a", 3, "elder"), record("b", 1, "other"))
	for at, r := range []struct {
		zero, more string // with no byte kept of the torn write, with one or more
		writes     int
	}{{"elder", "elder", 0}, {"elder", "elder", 0}, {"elder", "new" + letters(30), 0}, {"new" + letters(30), "new" + letters(30), 1}} {
		for _, keep := range keeps() {
			d := base.Clone()
			s := opened(t, d, 3, 2)
			d.Stop(at, keep)
			if err := s.Put("a", []byte("new"+letters(30))); err != api.ErrCrash || !d.Dead() || d.Writes() != base.Writes()+at {
				t.Fatalf("Stop(%d, %d): Put = %d, the disk's Dead, Writes = %t, %d", at, keep, err, d.Dead(), d.Writes())
			}
			d.Start()
			want, writes := r.more, 0
			if keep <= 0 {
				want, writes = r.zero, r.writes
			}
			if at == 2 && keep > 0 {
				writes = 1
			}
			before := d.Writes()
			has(t, fmt.Sprintf("Stop(%d, %d)", at, keep), opened(t, d, 3, 2), 1, "a", want, "b", "other")
			if d.Writes() != before+writes {
				t.Errorf("Stop(%d, %d): opened again with %d writes, want %d", at, keep, d.Writes()-before, writes)
			}
		}
	}
	for _, keep := range keeps() {
		d := base.Clone()
		s := opened(t, d, 3, 2)
		d.Stop(0, keep)
		if err := s.Drop("a"); err != api.ErrCrash {
			t.Fatalf("Stop(0, %d): Drop = %d", keep, err)
		}
		d.Start()
		if keep <= 0 {
			has(t, "a Drop that did nothing", opened(t, d, 3, 2), 1, "a", "elder", "b", "other")
		} else {
			has(t, "a Drop that did all", opened(t, d, 3, 2), 2, "b", "other")
		}
	}
}

// P11.1: Open, wherever the disk stops

func TestStopInOpen(t *testing.T) {
	for _, stood := range [][]string{
		{record("a", 1, "x"), "rubbish", record("b", 1, "y"), record("a", 2, "z")},
		{"1:a,", record("b", 2, "x"), record("b", 1, "y"), "", record("c", 9, "z"), record("c", 9, "w")},
		{record("a", 1, "x"), record("a", 2, "y"), record("a", 3, "z"), record("a", 4, "w"), "rubbish", "rubbish"},
		{record("a", 1, "x"), "", record("b", 1, "y")},
	} {
		base := laid(t, 6, 1, stood...)
		whole := base.Clone()
		want := records(opened(t, whole, 6, 1))
		total := whole.Writes() - base.Writes()
		for at := range total + 2 {
			for _, keep := range keeps() {
				d, m := base.Clone(), makerOf(base, 6, 1)
				d.Stop(at, keep)
				m.stop(at, keep)
				what := fmt.Sprintf("%q, Stop(%d, %d)", stood, at, keep)
				s, err := store.Open(d, 6, 1)
				if m.open(); (err == api.OK) != (at >= total) || (s == nil) == (err == api.OK) || err != api.OK && err != api.ErrCrash || d.Dead() != (at < total) {
					t.Fatalf("%s: Open = %v, %d, the disk's Dead %t", what, s, err, d.Dead())
				}
				if again, err := store.Open(d, 6, 1); at < total && (again != nil || err != api.ErrCrash) {
					t.Fatalf("%s: Open of the dead disk = %v, %d", what, again, err)
				}
				stands(t, what, d, m)
				d.Start()
				m.start()
				m.open()
				again := opened(t, d, 6, 1)
				holds(t, what+", opened again", again, d, m, "a", "b", "c")
				if got := records(again); !maps.Equal(got, want) {
					t.Errorf("%s, opened again: %q, want %q", what, got, want)
				}
			}
		}
	}
}

// A disk that dies behind the last write of Open lets it be; the store's next write dies.
func TestStopBehindOpen(t *testing.T) {
	for _, keep := range keeps() {
		d := laid(t, 4, 1, record("a", 1, "x"), record("a", 2, "y"), "rubbish")
		d.Stop(2, keep)
		s := opened(t, d, 4, 1)
		has(t, "opened ahead of the stop", s, 3, "a", "y")
		for _, err := range []api.Errno{s.Drop("b"), s.Put("b", make([]byte, 40))} {
			if err == api.ErrCrash {
				t.Error("a call that writes nothing lets the disk die")
			}
		}
		has(t, "opened ahead of the stop", s, 3, "a", "y")
		if err := s.Drop("a"); err != api.ErrCrash {
			t.Errorf("Drop = %d, want ErrCrash", err)
		}
		hasDied(t, "Drop", s, d, 1, "a", "b")
	}
}

// A store that has died stays so, though its disk starts again, and another store is opened on it.
func TestDiedForGood(t *testing.T) {
	d := laid(t, 3, 1, record("a", 1, "x"))
	s := opened(t, d, 3, 1)
	d.Stop(1, 0)
	if err := s.Put("b", nil); err != api.ErrCrash {
		t.Fatalf("Put = %d, want ErrCrash", err)
	}
	d.Start()
	hasDied(t, "behind Start", s, d, 1, "a", "b")
	other := opened(t, d, 3, 1)
	puts(t, other, "b", "y")
	hasDied(t, "beside another store", s, d, 1, "a", "b")
	has(t, "the other store", other, 1, "a", "x", "b", "y")
}

// A full store whose disk died is no full store any more.
func TestDiedWhileFull(t *testing.T) {
	d := laid(t, 2, 1, record("a", 1, "x"), record("b", 1, "y"))
	s := opened(t, d, 2, 1)
	d.Stop(0, 0)
	if err := s.Put("c", nil); err != api.ErrSpace {
		t.Fatalf("Put into a full store = %d, want ErrSpace", err)
	}
	has(t, "a full store", s, 0, "a", "x", "b", "y")
	if err := s.Drop("b"); err != api.ErrCrash {
		t.Fatalf("Drop = %d, want ErrCrash", err)
	}
	hasDied(t, "a full store", s, d, 1, "a", "b", "c")
}

// The chapter's example.
func TestExample(t *testing.T) {
	d := newDisk(t, 4, 2)
	s := opened(t, d, 4, 2)
	puts(t, s, "name", "the first data")
	d.Stop(0, 0)
	if err := s.Put("name", []byte("the second data")); err != api.ErrCrash {
		t.Errorf("Put = %d, want ErrCrash", err)
	}
	d.Start()
	has(t, "the example", opened(t, d, 4, 2), 3, "name", "the first data")
}

// A long course of calls drawn by chance, with stops in it, against the other maker.

func TestByChance(t *testing.T) {
	for seed := range 400 {
		c := newCourse(t, seed)
		for n := range 120 {
			c.step(fmt.Sprintf("course %d, call %d", seed, n))
			if t.Failed() {
				return
			}
		}
	}
}

// course is a disk, a store on it (or none), and the other maker of both.
type course struct {
	t           *testing.T
	random      *rand.Rand
	slots, room int
	disk        *disk.Disk
	store       *store.Store
	maker       *maker
}

// newCourse begins with a disk that may hold anything.
func newCourse(t *testing.T, seed int) *course {
	c := &course{t: t, random: rand.New(rand.NewSource(int64(seed)))}
	c.slots, c.room = 1+c.random.Intn(6), 1+c.random.Intn(3)
	c.disk = junkDisk(t, c.slots, c.room)
	for slot := range c.slots {
		c.litter(slot)
	}
	c.maker = makerOf(c.disk, c.slots, c.room)
	return c
}

func (c *course) name() string {
	return []string{"a", "b", "", "ab", "\xff", "a\x00", letters(12), letters(30)}[c.random.Intn(8)]
}

func (c *course) data() []byte {
	b := make([]byte, c.random.Intn([]int{3, 20, 40 * c.room}[c.random.Intn(3)]))
	for i := range b {
		b[i] = byte(c.random.Intn(256))
	}
	return b
}

// litter lays a record, or what is none, to a slot, while no store is open.
func (c *course) litter(slot int) {
	b := record(c.name(), c.random.Intn(4), string(c.data()))
	b = b[:min(len(b), c.room*api.Sector)]
	if c.random.Intn(4) == 0 {
		b = b[:c.random.Intn(len(b))]
	}
	at := slot * (c.room + 1)
	lay(c.t, c.disk, at+1, b)
	if c.random.Intn(5) > 0 {
		lay(c.t, c.disk, at, "\x01")
	}
}

func (c *course) step(what string) {
	c.t.Helper()
	switch k := c.random.Intn(20); {
	case c.store == nil || k == 0 || c.maker.died && k < 5:
		c.open(what)
	case k == 1 || k == 2:
		at, keep := c.random.Intn(12), c.random.Intn(36)-2
		c.disk.Stop(at, keep)
		c.maker.stop(at, keep)
	case k == 3:
		c.disk.Start()
		c.maker.start()
	case k < 14:
		name, data := c.name(), c.data()
		if got, want := c.store.Put(name, data), c.maker.put(name, data); got != want {
			c.t.Errorf("%s: Put(%q, %q) = %d, want %d", what, name, data, got, want)
		}
	case k < 19:
		name := c.name()
		if got, want := c.store.Drop(name), c.maker.drop(name); got != want {
			c.t.Errorf("%s: Drop(%q) = %d, want %d", what, name, got, want)
		}
	default:
		name, data := c.name(), c.data()
		if got, want := c.store.Fits(name, data), c.maker.fits(name, data); got != want {
			c.t.Errorf("%s: Fits(%q, %d bytes) = %t, want %t", what, name, len(data), got, want)
		}
	}
	if c.store == nil {
		stands(c.t, what, c.disk, c.maker)
		return
	}
	holds(c.t, what, c.store, c.disk, c.maker, "a", "b", "", "ab", "\xff", "a\x00", letters(12), letters(30))
}

// open opens the disk anew; a dead one is started first, mostly.
func (c *course) open(what string) {
	c.t.Helper()
	if c.disk.Dead() && c.random.Intn(3) > 0 {
		c.disk.Start()
		c.maker.start()
		if c.store == nil && c.random.Intn(3) == 0 {
			c.litter(c.random.Intn(c.slots))
			c.maker = makerOf(c.disk, c.slots, c.room)
		}
	}
	s, err := store.Open(c.disk, c.slots, c.room)
	if want := c.maker.open(); err != want || (s != nil) != (want == api.OK) {
		c.t.Errorf("%s: Open = %v, %d, want %d", what, s, err, want)
	}
	c.store = s
	if s != nil && !slices.IsSorted(s.Names()) {
		c.t.Errorf("%s: Names do not rise", what)
	}
}
