package store_test

import (
	"fmt"
	"math"
	"slices"
	"strings"
	"testing"

	"aumbry/api"
	"aumbry/disk"
	"aumbry/store"
)

// killed is a disk of so many sectors, dead, or not.
func killed(t *testing.T, sectors int, dead bool) *disk.Disk {
	t.Helper()
	d, err := disk.New(sectors)
	if err != api.OK {
		t.Fatalf("disk.New(%d) = %d", sectors, err)
	}
	if dead {
		d.Stop(0, 0)
		d.Write(0, nil)
	}
	return d
}

// opens holds what Open answers, of a disk that lives and of a dead one, and that nothing is written.
func opens(t *testing.T, sectors, slots, room int, want api.Errno) {
	t.Helper()
	for _, dead := range []bool{false, true} {
		if dead && want == api.OK {
			want = api.ErrCrash
		}
		d := killed(t, sectors, dead)
		m := makerOf(d, 1, sectors-1)
		s, err := store.Open(d, slots, room)
		if err != want || (s != nil) != (want == api.OK) {
			t.Errorf("Open(%d, %d) on %d sectors, dead %t: %v, %d, want %d", slots, room, sectors, dead, s, err, want)
		}
		if want == api.OK && s != nil {
			has(t, "a new disk", s, slots)
		}
		stands(t, fmt.Sprintf("Open(%d, %d) on %d sectors", slots, room, sectors), d, m)
	}
}

// P11.1: Open's arguments

func TestOpenOfEachSize(t *testing.T) {
	for _, size := range [][2]int{{1, 1}, {1, 2}, {2, 1}, {3, 5}, {5, 3}, {16, 7}, {64, 4}, {255, 15}, {256, 15}, {257, 14}, {1, 1023}, {1, 1024}, {2, 1024}, {3, 1024}, {1023, 3}, {1024, 1}, {1024, 2}, {1024, 3}} {
		slots, room := size[0], size[1]
		just := slots * (room + 1)
		for _, off := range []int{0, 1, -1, 2, -2, slots, -slots, room, room + 1, -room - 1} {
			if just+off < 1 || just+off > api.MaxSectors {
				continue
			}
			want := api.ErrArg
			if off == 0 {
				want = api.OK
			}
			opens(t, just+off, slots, room, want)
		}
	}
}

// A number of slots, or of sectors, that may not be, on disks of many sizes: of just slots times (room + 1) sectors among them.
func TestOpenOfNoSize(t *testing.T) {
	none := []int{0, -1, -2, -3, -64, -1024, -1025, math.MinInt, math.MinInt + 1, 1025, 1026, 2048, 4096, 1 << 16, 1 << 31, 1 << 32, 1<<32 + 1, 1 << 62, math.MaxInt - 1, math.MaxInt}
	for _, n := range none {
		for _, other := range append([]int{1, 2, 3, 1024}, none...) {
			for _, size := range [][2]int{{n, other}, {other, n}} {
				sectors := []int{1, 2, 64}
				if just := size[0] * (size[1] + 1); just >= 1 && just <= api.MaxSectors {
					sectors = append(sectors, just)
				}
				for _, just := range sectors {
					opens(t, just, size[0], size[1], api.ErrArg)
				}
			}
		}
	}
	for _, r := range [][3]int{{4096, math.MinInt, 0}, {4096, 4096, 0}, {4096, 2048, 1}, {2050, 1025, 1}, {3075, 1025, 2}, {1026, 1, 1025}, {2052, 2, 1025}, {1, -1, -2}, {4, -2, -3}, {5, 5, 0}, {1024, 1024, 0}, {1, 1, 0}} {
		opens(t, r[0], r[1], r[2], api.ErrArg)
	}
}

// P11.1: states

func TestStates(t *testing.T) {
	for state := range 256 {
		for _, tail := range []string{"", "\x01\x01\x01", strings.Repeat("\xff", 31)} {
			d := laid(t, 3, 2, record("a", 1, "first"), record("b", 2, "second"), record("c", 3, "third"))
			lay(t, d, 3, string([]byte{byte(state)})+tail)
			m := makerOf(d, 3, 2)
			s := opened(t, d, 3, 2)
			what := fmt.Sprintf("a state of %d", state)
			if state == 1 {
				has(t, what, s, 0, "a", "first", "b", "second", "c", "third")
			} else {
				has(t, what, s, 1, "a", "first", "c", "third")
			}
			stands(t, what, d, m)
		}
	}
}

// P11.1: records of a form, and of none

func TestRecordsOfAForm(t *testing.T) {
	full := strings.Repeat("z", 96-len(record("", 0, ""))-len("a")-1)
	for _, r := range []struct{ stands, name, data string }{
		{record("", 0, ""), "", ""},
		{record("", 1, "") + strings.Repeat("9", 20), "", ""},
		{record("a", 0, "x") + "1:b,", "a", "x"},
		{record("a", 1, "x") + record("a", 2, "y"), "a", "x"},
		{record("a,4:\x00", 1<<32-1, "3:,,,,") + "\x01", "a,4:\x00", "3:,,,,"},
		{record("a\x00\xff", 0x01020304, "0123456789"), "a\x00\xff", "0123456789"},
		{record("a", 7, full), "a", full},
		{record(strings.Repeat("n", 50), 7, strings.Repeat("m", 20)) + strings.Repeat("\x01", 5), strings.Repeat("n", 50), strings.Repeat("m", 20)},
	} {
		d := laid(t, 3, 3, "", r.stands, "")
		m := makerOf(d, 3, 3)
		s := opened(t, d, 3, 3)
		what := fmt.Sprintf("%q", r.stands)
		has(t, what, s, 2, r.name, r.data)
		stands(t, what, d, m)
	}
}

// noForms are texts that no record begins with, for slots of 3 sectors.
func noForms() []string {
	whole := record("a", 1, "xy")
	l := []string{
		strings.Repeat("\x00", 96), strings.Repeat("\x01", 96), strings.Repeat("\xff", 96), strings.Repeat("1", 96), strings.Repeat(":", 96), strings.Repeat(",", 96),
		"1:a,", "1:a,4:\x00\x00\x00\x01,", "1:a,2:xy,", "1:a,2:xy,4:\x00\x00\x00\x01,", "4:\x00\x00\x00\x01,2:xy,",
		"1:a,0:,2:xy,", "1:a,1:\x01,2:xy,", "1:a,3:\x00\x00\x01,2:xy,", "1:a,5:\x00\x00\x00\x00\x01,2:xy,", "1:a,7:\x00\x00\x00\x00\x00\x00\x01,2:xy,", "1:a,8:\x00\x00\x00\x00\x00\x00\x00\x01,2:xy,",
		" " + whole, "\x00" + whole, "0:" + whole, "," + whole,
		"0" + whole, "+" + whole, "-" + whole, "00:,4:\x00\x00\x00\x01,2:xy,",
		"1:a,04:\x00\x00\x00\x01,2:xy,", "1:a,4:\x00\x00\x00\x01,02:xy,", "1:a,4:\x00\x00\x00\x01,+2:xy,",
		"0:a,4:\x00\x00\x00\x01,2:xy,", "2:a,4:\x00\x00\x00\x01,2:xy,", "1:a,4:\x00\x00\x00\x01,1:xy,", "1:a,4:\x00\x00\x00\x01,3:xy,", "1:a,4:\x00\x00\x00\x01,0:xy,",
		":a,4:\x00\x00\x00\x01,2:xy,", "1a,4:\x00\x00\x00\x01,2:xy,", "1:a4:\x00\x00\x00\x01,2:xy,", "1:a;4:\x00\x00\x00\x01,2:xy,", "1:a,4:\x00\x00\x00\x01;2:xy,", "1:a,4:\x00\x00\x00\x01,2:xy;",
		"1:a,4:\x00\x00\x00\x01,2;xy,", "1;a,4:\x00\x00\x00\x01,2:xy,", "x:a,4:\x00\x00\x00\x01,2:xy,",
		"1:a,4:\x00\x00\x00\x01,99999999999999999999:xy,", "18446744073709551617:a,4:\x00\x00\x00\x01,2:xy,",
		// All that a slot can have, and one byte less than it needs.
		record("a", 1, strings.Repeat("z", 82))[:96],
	}
	for n := range len(whole) {
		l = append(l, whole[:n]+strings.Repeat("\x00", 96-n), whole[:n]+strings.Repeat("\xff", 96-n), whole[:n]+strings.Repeat("0", 96-n))
	}
	return l
}

func TestRecordsOfNoForm(t *testing.T) {
	for _, b := range noForms() {
		for slot := range 3 {
			records := []string{record("p", 1, "first"), record("q", 2, "second"), record("r", 3, "third")}
			pairs := []string{"p", "first", "q", "second", "r", "third"}
			records[slot] = b
			d := laid(t, 3, 3, records...)
			// What stands in the slots behind is none of this one's: with it the record that ends too early would be whole.
			if slot < 2 {
				lay(t, d, 4*slot+4, ",,,")
				pairs = slices.Delete(pairs, 2*slot+2, 2*slot+4)
			}
			m := makerOf(d, 3, 3)
			s := opened(t, d, 3, 3)
			what := fmt.Sprintf("%q in slot %d", b, slot)
			free := 3 - len(pairs)/2 + 1
			has(t, what, s, free, slices.Delete(pairs, 2*slot, 2*slot+2)...)
			copy(m.image[4*slot*api.Sector:], make([]byte, api.Sector))
			m.writes++
			stands(t, what, d, m)
			has(t, what+", opened again", opened(t, d, 3, 3), free, pairs[:len(pairs)-2]...)
			stands(t, what+", opened again", d, m)
		}
	}
}

// A name, or data, of MaxBytes bytes is a row, one byte more is none.
func TestLongRecords(t *testing.T) {
	for _, r := range []struct {
		name, data int
		ok         bool
	}{{1 << 14, 5, true}, {1<<14 + 1, 5, false}, {5, 1 << 14, true}, {5, 1<<14 + 1, false}, {1 << 14, 1<<14 - 40, true}} {
		name, data := strings.Repeat("n", r.name), strings.Repeat("d", r.data)
		d := laid(t, 2, 1024, "", record(name, 9, data))
		m := makerOf(d, 2, 1024)
		s := opened(t, d, 2, 1024)
		what := fmt.Sprintf("a name of %d bytes, data of %d", r.name, r.data)
		if r.ok {
			has(t, what, s, 1, name, data)
		} else {
			has(t, what, s, 2)
			copy(m.image[1025*api.Sector:], make([]byte, api.Sector))
			m.writes++
		}
		stands(t, what, d, m)
	}
}

// P11.1: several records of one name

func TestSeveralOfOneName(t *testing.T) {
	for _, r := range []struct {
		records []string
		frees   []int // in this order
		pairs   []string
	}{
		{[]string{record("a", 1, "x"), record("a", 2, "y")}, []int{0}, []string{"a", "y"}},
		{[]string{record("a", 2, "x"), record("a", 1, "y")}, []int{1}, []string{"a", "x"}},
		{[]string{record("a", 1, "x"), record("a", 1, "y")}, []int{1}, []string{"a", "x"}},
		{[]string{record("a", 0, "x"), record("a", 0, "y"), record("a", 0, "z")}, []int{1, 2}, []string{"a", "x"}},
		{[]string{record("a", 0, "x"), record("a", 1, "y")}, []int{0}, []string{"a", "y"}},
		{[]string{record("a", 1, "x"), record("a", 3, "y"), record("a", 2, "z"), record("a", 3, "w")}, []int{0, 2, 3}, []string{"a", "y"}},
		{[]string{record("a", 3, "x"), record("a", 1, "y"), record("a", 3, "z"), record("a", 4, "w")}, []int{0, 1, 2}, []string{"a", "w"}},
		{[]string{record("a", 255, "x"), record("a", 256, "y")}, []int{0}, []string{"a", "y"}},
		{[]string{record("a", 256, "x"), record("a", 255, "y")}, []int{1}, []string{"a", "x"}},
		{[]string{record("a", 0x00ffffff, "x"), record("a", 0x01000000, "y")}, []int{0}, []string{"a", "y"}},
		{[]string{record("a", 0x80000000, "x"), record("a", 0x7fffffff, "y")}, []int{1}, []string{"a", "x"}},
		{[]string{record("a", 0, "x"), record("a", 0xffffffff, "y")}, []int{0}, []string{"a", "y"}},
		{[]string{record("a", 0xffffffff, "x"), record("a", 1, "y")}, []int{1}, []string{"a", "x"}},
		{[]string{record("b", 1, "x"), record("a", 1, "y"), record("b", 2, "z"), record("a", 2, "w")}, []int{0, 1}, []string{"a", "w", "b", "z"}},
		{[]string{record("b", 2, "x"), record("a", 2, "y"), record("b", 1, "z"), record("a", 1, "w")}, []int{2, 3}, []string{"a", "y", "b", "x"}},
		{[]string{record("a", 1, "x"), record("b", 2, "y"), record("b", 1, "z"), record("a", 2, "w")}, []int{0, 2}, []string{"a", "w", "b", "y"}},
		{[]string{record("", 1, "x"), record("\x00", 2, "y"), record("", 2, "z"), record("A", 9, "w")}, []int{0}, []string{"", "z", "\x00", "y", "A", "w"}},
		// What is of no form is freed ahead of these, and is none of them.
		{[]string{record("a", 1, "x"), "1:a,4:\x00\x00\x00\x09,", record("a", 2, "z"), "rubbish"}, []int{1, 3, 0}, []string{"a", "z"}},
		{[]string{"", record("a", 5, "x"), record("a", 1, "y"), "1:a,"}, []int{3, 2}, []string{"a", "x"}},
		{[]string{record("a", 5, "x"), "", record("a", 5, "y"), ""}, []int{2}, []string{"a", "x"}},
	} {
		d := laid(t, 4, 1, r.records...)
		what := fmt.Sprintf("%q", r.records)
		var frees []step
		for _, slot := range r.frees {
			frees = append(frees, step{2 * slot, ""})
		}
		open := func(d *disk.Disk) api.Errno {
			_, err := store.Open(d, 4, 1)
			return err
		}
		traces(t, what, d, open, frees...)
		has(t, what, opened(t, d, 4, 1), 4-len(r.pairs)/2, r.pairs...)
		m := makerOf(d, 4, 1)
		has(t, what+", opened again", opened(t, d, 4, 1), 4-len(r.pairs)/2, r.pairs...)
		stands(t, what+", opened again", d, m)
	}
}

// step is a write: to which sector, and what.
type step struct {
	sector int
	data   string
}

// traces holds the writes of a call, one by one, with what stands behind each of them, and how many they are.
func traces(t *testing.T, what string, d *disk.Disk, call func(d *disk.Disk) api.Errno, steps ...step) {
	t.Helper()
	m := makerOf(d, 1, d.Len()-1)
	for at := range len(steps) + 1 {
		c := d.Clone()
		c.Stop(at, 0)
		want := api.ErrCrash
		if at == len(steps) {
			want = api.OK
		}
		if err := call(c); err != want {
			t.Errorf("%s, of whose writes %d end well: %d, want %d", what, at, err, want)
		}
		m.dead = at < len(steps)
		stands(t, fmt.Sprintf("%s, behind %d writes", what, at), c, m)
		if at < len(steps) {
			whole := make([]byte, api.Sector)
			copy(whole, steps[at].data)
			copy(m.image[steps[at].sector*api.Sector:], whole)
			m.writes++
		}
	}
}

// Whatever stands in four slots, of some records and of some that are none, Open does as the other maker does, wherever the disk stops.
func TestOpenOfAnything(t *testing.T) {
	some := []string{"", "1:a,4:", record("a", 1, "x"), record("a", 2, "y"), record("a", 2, "z"), record("b", 1, "v"), record("b", 3, "w")}
	keeps := []int{0, 1, 2, 32}
	for n := range len(some) * len(some) * len(some) * len(some) {
		var records []string
		for range 4 {
			records = append(records, some[n%len(some)])
			n /= len(some)
		}
		d := laid(t, 4, 1, records...)
		for at := range 5 {
			c, m := d.Clone(), makerOf(d, 4, 1)
			keep := keeps[(at+len(records[0]))%len(keeps)]
			c.Stop(at, keep)
			m.stop(at, keep)
			what := fmt.Sprintf("%q, Stop(%d, %d)", records, at, keep)
			s, err := store.Open(c, 4, 1)
			if want := m.open(); err != want || (s != nil) != (want == api.OK) {
				t.Fatalf("%s: Open = %v, %d, want %d", what, s, err, want)
			}
			stands(t, what, c, m)
			if s != nil {
				holds(t, what, s, c, m, "a", "b", "")
				break
			}
			c.Start()
			m.start()
			m.open()
			holds(t, what+", opened again", opened(t, c, 4, 1), c, m, "a", "b", "")
		}
	}
}
