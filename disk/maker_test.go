package disk_test

import (
	"bytes"
	"math/rand"
	"slices"
	"testing"

	"aumbry/api"
	"aumbry/disk"
)

// kinds of what a log holds
const (
	wrote   = iota // a write that ended well
	tore           // the write that tore
	stopped        // a Stop
	started        // a Start
)

// entry is what a call left behind.
type entry struct {
	kind, sector, at, reach int // reach: how many bytes of the sector the write changed
	data                    []byte
}

// log is another maker of all answers: it keeps no sectors, only what was done, and looks back through that for each answer.
type log struct {
	sectors int
	entries []entry
}

func (l *log) read(i int) ([]byte, api.Errno) {
	if i < 0 || i >= l.sectors {
		return nil, api.ErrArg
	}
	if l.dead() {
		return nil, api.ErrCrash
	}
	return l.sector(i), api.OK
}

// sector is what stands there, dead or not: each byte is that of the last write that reached it.
func (l *log) sector(i int) []byte {
	b := make([]byte, api.Sector)
	for place := range b {
		for _, e := range slices.Backward(l.entries) {
			if (e.kind == wrote || e.kind == tore) && e.sector == i && e.reach > place {
				if place < len(e.data) {
					b[place] = e.data[place]
				}
				break
			}
		}
	}
	return b
}

func (l *log) write(i int, b []byte) api.Errno {
	if i < 0 || i >= l.sectors || len(b) > api.Sector {
		return api.ErrArg
	}
	if l.dead() {
		return api.ErrCrash
	}
	e := entry{kind: wrote, sector: i, reach: api.Sector, data: bytes.Clone(b)}
	before := 0
	for _, old := range slices.Backward(l.entries) {
		if old.kind == started || old.kind == stopped && old.at > before {
			break
		}
		if old.kind == stopped {
			e.kind, e.reach = tore, old.reach
			break
		}
		before++
	}
	l.entries = append(l.entries, e)
	if e.kind == tore {
		return api.ErrCrash
	}
	return api.OK
}

func (l *log) stop(at, keep int) {
	l.entries = append(l.entries, entry{kind: stopped, at: at, reach: keep})
}

func (l *log) start() { l.entries = append(l.entries, entry{kind: started}) }

func (l *log) dead() bool {
	for _, e := range slices.Backward(l.entries) {
		if e.kind == started || e.kind == tore {
			return e.kind == tore
		}
	}
	return false
}

func (l *log) writes() int {
	n := 0
	for _, e := range l.entries {
		if e.kind == wrote {
			n++
		}
	}
	return n
}

func (l *log) clone() *log { return &log{l.sectors, slices.Clone(l.entries)} }

// newDisk is a disk of so many sectors.
func newDisk(t *testing.T, sectors int) *disk.Disk {
	t.Helper()
	d, err := disk.New(sectors)
	if err != api.OK || d == nil {
		t.Fatalf("New(%d) = %v, %d", sectors, d, err)
	}
	return d
}

// wells is a write that ends well.
func wells(t *testing.T, d *disk.Disk, i int, b ...byte) {
	t.Helper()
	if err := d.Write(i, b); err != api.OK {
		t.Fatalf("Write(%d, %v) = %d, want that it ends well", i, b, err)
	}
}

// tears is the write that tears.
func tears(t *testing.T, d *disk.Disk, i int, b ...byte) {
	t.Helper()
	if err := d.Write(i, b); err != api.ErrCrash || !d.Dead() {
		t.Fatalf("Write(%d, %v) = %d, dead %t, want that it tears", i, b, err, d.Dead())
	}
}

// whole is b and noughts behind it, as much as a sector has.
func whole(b ...byte) []byte {
	s := make([]byte, api.Sector)
	copy(s, b)
	return s
}

// full is a sector without a nought, another one for another n.
func full(n int) []byte {
	b := make([]byte, api.Sector)
	for i := range b {
		b[i] = byte(1 + (i*7+n*37)%255)
	}
	return b
}

// stands holds what sector i of a disk that lives tells against b.
func stands(t *testing.T, what string, d *disk.Disk, i int, b []byte) {
	t.Helper()
	got, err := d.Read(i)
	if err != api.OK || !bytes.Equal(got, b) {
		t.Errorf("%s: Read(%d) = %v, %d, want %v", what, i, got, err, b)
	}
}

// holds holds all that a disk tells against the log.
func holds(t *testing.T, what string, d *disk.Disk, l *log) {
	t.Helper()
	if d.Len() != l.sectors || d.Dead() != l.dead() || d.Writes() != l.writes() {
		t.Errorf("%s: Len, Dead, Writes = %d, %t, %d, want %d, %t, %d", what, d.Len(), d.Dead(), d.Writes(), l.sectors, l.dead(), l.writes())
	}
	for i := -1; i <= l.sectors; i++ {
		got, err := d.Read(i)
		want, wantErr := l.read(i)
		if err != wantErr || !bytes.Equal(got, want) {
			t.Errorf("%s: Read(%d) = %v, %d, want %v, %d", what, i, got, err, want, wantErr)
		}
	}
}

// holdsWithin holds also what stands on a dead disk, and what is ahead of it, by clones.
func holdsWithin(t *testing.T, what string, d *disk.Disk, l *log) {
	t.Helper()
	holds(t, what, d, l)
	c, m := d.Clone(), l.clone()
	for n := range 4 {
		b := full(n)
		if got, want := c.Write(0, b), m.write(0, b); got != want {
			t.Errorf("%s: write %d of a clone: %d, want %d", what, n, got, want)
		}
	}
	holds(t, what+", a clone's writes", c, m)
	c, m = d.Clone(), l.clone()
	c.Start()
	m.start()
	holds(t, what+", a clone that starts", c, m)
	holds(t, what+", behind its clones", d, l)
}

// chance is a disk and its log, and what drives them.
type chance struct {
	t *testing.T
	r *rand.Rand
	d *disk.Disk
	l *log
}

// bytes is a text for a write, too long now and then.
func (c *chance) bytes() []byte {
	b := make([]byte, c.r.Intn(api.Sector+1))
	if c.r.Intn(8) == 0 {
		b = make([]byte, api.Sector+1+c.r.Intn(3)*111)
	}
	c.r.Read(b)
	return b
}

// call does one call drawn by chance, and holds its answer.
func (c *chance) call() {
	switch n := c.r.Intn(20); {
	case n < 11:
		i, b := c.r.Intn(c.l.sectors+2)-1, c.bytes()
		was := bytes.Clone(b)
		got, want := c.d.Write(i, b), c.l.write(i, b)
		if got != want || !bytes.Equal(b, was) {
			c.t.Errorf("Write(%d, %v) = %d, want %d; or what was handed in is changed", i, was, got, want)
		}
		clear(b)
	case n < 14:
		i := c.r.Intn(c.l.sectors+2) - 1
		got, err := c.d.Read(i)
		want, wantErr := c.l.read(i)
		if err != wantErr || !bytes.Equal(got, want) {
			c.t.Errorf("Read(%d) = %v, %d, want %v, %d", i, got, err, want, wantErr)
		}
		clear(got)
	case n < 17:
		at, keep := c.r.Intn(8)-2, c.r.Intn(api.Sector+6)-3
		c.d.Stop(at, keep)
		c.l.stop(at, keep)
	default:
		if c.l.dead() || n == 19 {
			c.d.Start()
			c.l.start()
		}
	}
}

func TestCourseByChance(t *testing.T) {
	r := rand.New(rand.NewSource(1))
	for round := range 500 {
		sectors := 1 + r.Intn(5)
		all := []*chance{{t, r, newDisk(t, sectors), &log{sectors: sectors}}}
		for range 120 {
			c := all[r.Intn(len(all))]
			c.call()
			if r.Intn(25) == 0 && len(all) < 4 {
				all = append(all, &chance{t, r, c.d.Clone(), c.l.clone()})
			}
			for _, c := range all {
				holds(t, "a course", c.d, c.l)
			}
		}
		for _, c := range all {
			holdsWithin(t, "a course's end", c.d, c.l)
		}
		if t.Failed() {
			t.Fatalf("round %d", round)
		}
	}
}

// What the course meets is told by the log: it has to meet all that the chapter names.
func TestCourseMeetsAll(t *testing.T) {
	r := rand.New(rand.NewSource(1))
	var found [4]int
	short, between, forgotten := 0, 0, 0
	for range 500 {
		sectors := 1 + r.Intn(5)
		c := &chance{t, r, newDisk(t, sectors), &log{sectors: sectors}}
		for range 120 {
			c.call()
		}
		for i, e := range c.l.entries {
			found[e.kind]++
			if e.kind == tore && e.reach > 0 && e.reach < api.Sector {
				short++
			}
			if e.kind == tore && i > 1 && c.l.entries[i-1].kind == wrote {
				between++
			}
			if i > 0 && e.kind == stopped && c.l.entries[i-1].kind == stopped {
				forgotten++
			}
		}
	}
	if found[wrote] < 1000 || found[tore] < 500 || found[stopped] < 500 || found[started] < 500 || short < 300 || between < 100 || forgotten < 100 {
		t.Errorf("the course met: %v, %d torn within, %d torn behind a write, %d Stops forgotten", found, short, between, forgotten)
	}
}
