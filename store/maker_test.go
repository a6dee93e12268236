package store_test

import (
	"bytes"
	"cmp"
	"fmt"
	"slices"
	"strconv"
	"testing"

	"aumbry/api"
	"aumbry/disk"
	"aumbry/store"
)

// maker is another maker of all answers: it keeps the disk's bytes alone, end to end, and looks through all of them for each answer.
type maker struct {
	slots, room int
	image       []byte
	ahead       bool // a Stop
	at, keep    int
	dead        bool // the disk
	writes      int
	died        bool // the store
}

// found is a record that stands in the image.
type found struct {
	slot, number int
	name, data   string
}

// row takes a row of code.Net from b's beginning.
func row(b string) (item, rest string, ok bool) {
	for n := 1; n <= 5 && n < len(b); n++ {
		length, err := strconv.Atoi(b[:n])
		if err == nil && strconv.Itoa(length) == b[:n] && b[n] == ':' && length <= api.MaxBytes && n+1+length < len(b) && b[n+1+length] == ',' {
			return b[n+1 : n+1+length], b[n+2+length:], true
		}
	}
	return "", "", false
}

// scan tells the slots that have a record, and those whose record is of no form.
func (m *maker) scan() (good []found, bad []int) {
	for slot := range m.slots {
		b := m.image[slot*(m.room+1)*api.Sector : (slot+1)*(m.room+1)*api.Sector]
		if b[0] != 1 {
			continue
		}
		name, rest, ok := row(string(b[api.Sector:]))
		number, rest, ok2 := row(rest)
		data, _, ok3 := row(rest)
		if !ok || !ok2 || !ok3 || len(number) != 4 {
			bad = append(bad, slot)
			continue
		}
		n := int(number[0])<<24 | int(number[1])<<16 | int(number[2])<<8 | int(number[3])
		good = append(good, found{slot, n, name, data})
	}
	return good, bad
}

// write is the disk's and the store's: what is behind the write that tears is not written.
func (m *maker) write(sector int, b string) bool {
	if m.dead {
		m.died = true
		return false
	}
	whole := append([]byte(b), make([]byte, api.Sector-len(b))...)
	reach := api.Sector
	tears := m.ahead && m.at <= 0
	if tears {
		reach = min(max(m.keep, 0), api.Sector)
	}
	copy(m.image[sector*api.Sector:], whole[:reach])
	if tears {
		m.dead, m.died = true, true
		return false
	}
	m.at--
	m.writes++
	return true
}

func (m *maker) stop(at, keep int) { m.ahead, m.at, m.keep = true, at, keep }

func (m *maker) start() { m.ahead, m.dead = false, false }

func (m *maker) free(slots ...int) api.Errno {
	for _, slot := range slots {
		if !m.write(slot*(m.room+1), "") {
			return api.ErrCrash
		}
	}
	return api.OK
}

func (m *maker) open() api.Errno {
	if m.dead {
		return api.ErrCrash
	}
	m.died = false
	good, bad := m.scan()
	slices.SortFunc(good, func(a, b found) int {
		return cmp.Or(cmp.Compare(a.name, b.name), cmp.Compare(b.number, a.number), cmp.Compare(a.slot, b.slot))
	})
	var elder []int
	for i, f := range good {
		if i > 0 && good[i-1].name == f.name {
			elder = append(elder, f.slot)
		}
	}
	slices.Sort(elder)
	return m.free(append(bad, elder...)...)
}

func (m *maker) fits(name string, data []byte) bool {
	return len(name) <= 1<<14 && len(data) <= 1<<14 && len(record(name, 0, string(data))) <= 32*m.room
}

// firstFree tells the first slot without a record, or the number of slots.
func (m *maker) firstFree() int {
	for slot := range m.slots {
		if m.image[slot*(m.room+1)*api.Sector] != 1 {
			return slot
		}
	}
	return m.slots
}

func (m *maker) put(name string, data []byte) api.Errno {
	slot := m.firstFree()
	switch {
	case m.died:
		return api.ErrCrash
	case !m.fits(name, data):
		return api.ErrArg
	case slot == m.slots:
		return api.ErrSpace
	}
	elder, there := m.find(name)
	b := record(name, elder.number+1, string(data))
	for i := 0; i*api.Sector < len(b); i++ {
		if !m.write(slot*(m.room+1)+1+i, b[i*api.Sector:min((i+1)*api.Sector, len(b))]) {
			return api.ErrCrash
		}
	}
	if !m.write(slot*(m.room+1), "\x01") {
		return api.ErrCrash
	}
	if there {
		return m.free(elder.slot)
	}
	return api.OK
}

func (m *maker) find(name string) (found, bool) {
	if m.died {
		return found{}, false
	}
	good, _ := m.scan()
	i := slices.IndexFunc(good, func(f found) bool { return f.name == name })
	if i < 0 {
		return found{}, false
	}
	return good[i], true
}

func (m *maker) drop(name string) api.Errno {
	f, there := m.find(name)
	switch {
	case m.died:
		return api.ErrCrash
	case !there:
		return api.ErrNone
	}
	return m.free(f.slot)
}

func (m *maker) names() []string {
	var names []string
	good, _ := m.scan()
	for _, f := range good {
		if !m.died {
			names = append(names, f.name)
		}
	}
	slices.SortFunc(names, func(a, b string) int { return bytes.Compare([]byte(a), []byte(b)) })
	return names
}

func (m *maker) freeSlots() int {
	good, _ := m.scan()
	if m.died {
		return 0
	}
	return m.slots - len(good)
}

func (m *maker) clone() *maker {
	c := *m
	c.image = bytes.Clone(m.image)
	return &c
}

// record is a record's bytes.
func record(name string, number int, data string) string {
	return fmt.Sprintf("%d:%s,4:%s,%d:%s,", len(name), name, four(number), len(data), data)
}

// four is a number as four bytes.
func four(n int) string {
	return string([]byte{byte(n >> 24), byte(n >> 16), byte(n >> 8), byte(n)})
}

// makerOf is the other maker over a disk as it stands, without a Stop ahead.
func makerOf(d *disk.Disk, slots, room int) *maker {
	return &maker{slots: slots, room: room, image: image(d), dead: d.Dead(), writes: d.Writes()}
}

// image is all that stands on a disk, dead or not.
func image(d *disk.Disk) []byte {
	c := d.Clone()
	c.Start()
	var all []byte
	for i := range c.Len() {
		b, _ := c.Read(i)
		all = append(all, b...)
	}
	return all
}

// newDisk is a disk for so many slots.
func newDisk(t testing.TB, slots, room int) *disk.Disk {
	t.Helper()
	d, err := disk.New(slots * (room + 1))
	if err != api.OK {
		t.Fatalf("disk.New(%d) = %d", slots*(room+1), err)
	}
	return d
}

// lay writes b to a disk from a sector on, whatever it is.
func lay(t testing.TB, d *disk.Disk, sector int, b string) {
	t.Helper()
	for chunk := range slices.Chunk([]byte(b), api.Sector) {
		if err := d.Write(sector, chunk); err != api.OK {
			t.Fatalf("disk.Write(%d, %v) = %d", sector, chunk, err)
		}
		sector++
	}
}

// junkDisk is a disk whose slots are free, and whose sectors are all unlike one another and unlike all that a store writes.
func junkDisk(t testing.TB, slots, room int) *disk.Disk {
	t.Helper()
	d := newDisk(t, slots, room)
	for i := range d.Len() {
		lay(t, d, i, string(append(bytes.Repeat([]byte{byte(200 + i%50)}, 30), byte(i>>8), byte(i))))
	}
	return d
}

// laid is junkDisk with records: what stands in each slot ("": it stays free).
func laid(t testing.TB, slots, room int, records ...string) *disk.Disk {
	t.Helper()
	d := junkDisk(t, slots, room)
	for slot, b := range records {
		if b != "" {
			lay(t, d, slot*(room+1), "\x01")
			lay(t, d, slot*(room+1)+1, b)
		}
	}
	return d
}

// opened is a store that opens well.
func opened(t testing.TB, d *disk.Disk, slots, room int) *store.Store {
	t.Helper()
	s, err := store.Open(d, slots, room)
	if err != api.OK || s == nil {
		t.Fatalf("Open(%d, %d) = %v, %d, want a store", slots, room, s, err)
	}
	return s
}

// puts is a Put that ends well.
func puts(t testing.TB, s *store.Store, name, data string) {
	t.Helper()
	if err := s.Put(name, []byte(data)); err != api.OK {
		t.Fatalf("Put(%.60q, %.60q) = %d, want OK", name, data, err)
	}
}

// drops is a Drop that ends well.
func drops(t testing.TB, s *store.Store, name string) {
	t.Helper()
	if err := s.Drop(name); err != api.OK {
		t.Fatalf("Drop(%q) = %d, want OK", name, err)
	}
}

// has holds what a store tells of its records against pairs of a name and its data, by rising names, and against how many slots are free.
func has(t testing.TB, what string, s *store.Store, free int, pairs ...string) {
	t.Helper()
	var names []string
	for i := 0; i < len(pairs); i += 2 {
		names = append(names, pairs[i])
		if got, ok := s.Get(pairs[i]); !ok || string(got) != pairs[i+1] {
			t.Errorf("%s: Get(%.60q) = %.60q, %t, want %.60q", what, pairs[i], got, ok, pairs[i+1])
		}
	}
	if got := s.Names(); !slices.Equal(got, names) {
		t.Errorf("%s: Names = %.60q, want %.60q", what, got, names)
	}
	if s.Free() != free {
		t.Errorf("%s: Free = %d, want %d", what, s.Free(), free)
	}
}

// stands holds all that is on a disk against the other maker's.
func stands(t testing.TB, what string, d *disk.Disk, m *maker) {
	t.Helper()
	if d.Dead() != m.dead || d.Writes() != m.writes {
		t.Errorf("%s: the disk's Dead, Writes = %t, %d, want %t, %d", what, d.Dead(), d.Writes(), m.dead, m.writes)
	}
	got := image(d)
	for i := range d.Len() {
		if g, w := got[i*api.Sector:(i+1)*api.Sector], m.image[i*api.Sector:(i+1)*api.Sector]; !bytes.Equal(g, w) {
			t.Errorf("%s: sector %d is %q, want %q", what, i, g, w)
		}
	}
}

// holds holds all that a store tells, and its disk, against the other maker's.
func holds(t testing.TB, what string, s *store.Store, d *disk.Disk, m *maker, names ...string) {
	t.Helper()
	stands(t, what, d, m)
	if got, want := s.Names(), m.names(); !slices.Equal(got, want) {
		t.Errorf("%s: Names = %.60q, want %.60q", what, got, want)
	}
	if got, want := s.Free(), m.freeSlots(); got != want {
		t.Errorf("%s: Free = %d, want %d", what, got, want)
	}
	for _, name := range append(names, m.names()...) {
		got, ok := s.Get(name)
		want, there := m.find(name)
		if ok != there || string(got) != want.data {
			t.Errorf("%s: Get(%.60q) = %.60q, %t, want %.60q, %t", what, name, got, ok, want.data, there)
		}
	}
}
