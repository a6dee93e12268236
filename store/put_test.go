package store_test

import (
	"fmt"
	"math/rand"
	"slices"
	"strings"
	"testing"

	"aumbry/api"
	"aumbry/disk"
)

// putSteps are the writes of a record to a slot, sector by sector, and then of its state.
func putSteps(slot, room int, b string) []step {
	var steps []step
	at := slot * (room + 1)
	for i := 0; i < len(b); i += api.Sector {
		steps = append(steps, step{at + 1 + i/api.Sector, b[i:min(i+api.Sector, len(b))]})
	}
	return append(steps, step{at, "\x01"})
}

// slotOf is the slot that has just this record, and a state of one byte 1; -1: none.
func slotOf(d *disk.Disk, slots, room int, b string) int {
	all := string(image(d))
	for slot := range slots {
		at := slot * (room + 1) * api.Sector
		if strings.HasPrefix(all[at:], "\x01"+strings.Repeat("\x00", api.Sector-1)+b) {
			return slot
		}
	}
	return -1
}

// letters are n bytes, none of them like the next one.
func letters(n int) string {
	var b strings.Builder
	for i := range n {
		b.WriteByte(byte('a' + (i*7+i/26)%26))
	}
	return b.String()
}

// P11.1: Fits

func TestFits(t *testing.T) {
	for _, room := range []int{1, 2, 3, 4, 31, 32} {
		s := opened(t, newDisk(t, 2, room), 2, room)
		for _, name := range []int{0, 1, 2, 8, 9, 10, 11, 20, 32, 99, 100, 101, 1000} {
			for data := range 32*room + 40 {
				n, b := letters(name), []byte(letters(data))
				want := len(record(n, 1, string(b))) <= 32*room
				if got := s.Fits(n, b); got != want {
					t.Fatalf("room of %d: Fits of a name of %d bytes and %d of data = %t, want %t", room, name, data, got, want)
				}
			}
		}
		if s.Fits("", nil) != s.Fits("", []byte{}) || !s.Fits("", nil) {
			t.Errorf("room of %d: neither name nor data do not fit", room)
		}
	}
}

// Bounds, written out: a record of an empty name, or of one byte, in one sector and in three.
func TestFitsWrittenOut(t *testing.T) {
	for _, r := range []struct {
		room, name, data int
		want             bool
	}{
		{1, 0, 0, true}, {1, 0, 18, true}, {1, 0, 19, false}, {1, 1, 17, true}, {1, 1, 18, false}, {1, 19, 0, false}, {1, 18, 0, true}, {1, 32, 0, false},
		{3, 0, 82, true}, {3, 0, 83, false}, {3, 1, 81, true}, {3, 1, 82, false},
		{1024, 1 << 14, 0, true}, {1024, 1<<14 + 1, 0, false}, {1024, 0, 1 << 14, true}, {1024, 0, 1<<14 + 1, false},
		{1024, 1 << 14, 16363, true}, {1024, 1 << 14, 16364, false}, {1024, 16363, 1 << 14, true}, {1024, 16364, 1 << 14, false},
		{1024, 1 << 14, 1 << 14, false}, {1024, 1<<14 - 1, 1<<14 - 1, false}, {1024, 1 << 20, 0, false}, {1024, 0, 1 << 20, false}, {1024, 1 << 20, 1 << 20, false},
		{513, 1 << 14, 14, true}, {513, 1 << 14, 15, false}, {512, 1 << 14, 0, false}, {512, 0, 1 << 14, false}, {513, 0, 1 << 14, true},
	} {
		d := newDisk(t, 2, r.room)
		s := opened(t, d, 2, r.room)
		m := makerOf(d, 2, r.room)
		name, data := letters(r.name), letters(r.data)
		if got := s.Fits(name, []byte(data)); got != r.want {
			t.Errorf("room of %d: Fits of a name of %d bytes and %d of data = %t", r.room, r.name, r.data, got)
		}
		stands(t, "Fits", d, m)
		if !r.want {
			if err := s.Put(name, []byte(data)); err != api.ErrArg {
				t.Errorf("room of %d: Put of a name of %d bytes and %d of data = %d, want ErrArg", r.room, r.name, r.data, err)
			}
			stands(t, "Put of what does not fit", d, m)
			has(t, "Put of what does not fit", s, 2)
			continue
		}
		puts(t, s, name, data)
		has(t, "Put of what fits", s, 1, name, data)
		has(t, "Put of what fits, opened again", opened(t, d, 2, r.room), 1, name, data)
	}
}

// How great a number a name has already does not matter to Fits, nor whether a slot is free.
func TestFitsWhateverThereIs(t *testing.T) {
	d := laid(t, 2, 1, record("a", 0xfffffff0, "x"), record("b", 0, "y"))
	s := opened(t, d, 2, 1)
	for _, r := range []struct {
		name string
		data int
		want bool
	}{{"a", 17, true}, {"a", 18, false}, {"b", 17, true}, {"b", 18, false}, {"c", 17, true}, {"c", 18, false}} {
		if got := s.Fits(r.name, make([]byte, r.data)); got != r.want {
			t.Errorf("Fits(%q, %d bytes) = %t", r.name, r.data, got)
		}
	}
}

// P11.2: what Put writes, and in which order

func TestPutWrites(t *testing.T) {
	a, b, c, e := record("a", 4, "first"), record("b", 1, "second"), record("c", 0, "third"), record("", 1<<24, "fourth")
	for _, r := range []struct {
		records    []string
		name       string
		slot       int // where the record goes
		number     int
		elder      int // whose slot is freed, -1: none
		whatStands string
	}{
		{nil, "a", 0, 1, -1, "nothing"},
		{nil, "", 0, 1, -1, "nothing"},
		{[]string{a}, "a", 1, 5, 0, "the name"},
		{[]string{a}, "b", 1, 1, -1, "another name"},
		{[]string{"", a}, "a", 0, 5, 1, "the name, behind a free slot"},
		{[]string{"", a}, "c", 0, 1, -1, "another name, behind a free slot"},
		{[]string{a, "", b}, "b", 1, 2, 2, "two names"},
		{[]string{a, b, "", c}, "a", 2, 5, 0, "all but one slot"},
		{[]string{a, b, "", c}, "c", 2, 1, 3, "all but one slot"},
		{[]string{a, b, "", c}, "d", 2, 1, -1, "all but one slot"},
		{[]string{a, b, c, ""}, "a", 3, 5, 0, "all but the last slot"},
		{[]string{"", a, b, c}, "a", 0, 5, 1, "all but the first slot"},
		{[]string{e, "", "", a}, "", 1, 1<<24 + 1, 0, "the empty name"},
		{[]string{e, a}, "b", 2, 1, -1, "the empty name and another one"},
		{[]string{record("ab", 9, ""), record("A", 8, "")}, "a", 2, 1, -1, "names that are nearly so"},
	} {
		for _, length := range []int{0, 1, 16, 17, 18, 30, 48, 49, 50, 80, 81} {
			data := letters(length)
			written := record(r.name, r.number, data)
			steps := putSteps(r.slot, 3, written)
			if r.elder >= 0 {
				steps = append(steps, step{4 * r.elder, ""})
			}
			d := laid(t, 4, 3, r.records...)
			what := fmt.Sprintf("%s, Put(%q, %d bytes)", r.whatStands, r.name, length)
			traces(t, what, d, func(c *disk.Disk) api.Errno {
				return opened(t, c, 4, 3).Put(r.name, []byte(data))
			}, steps...)
			if got := len(steps); got != (len(written)+31)/32+1+min(r.elder+1, 1) {
				t.Fatalf("%s: %d writes are held", what, got)
			}
		}
	}
}

// A slot is free whose state is any number but 1, whatever stands in its sectors: a record that would be the greater one, too.
func TestPutOverWhatIsNone(t *testing.T) {
	for _, state := range []string{"", "\x00\x01", "\x02", "\xff\x01\x01", "\x03" + letters(31)} {
		d := laid(t, 3, 2, record("a", 9, "old"), record("b", 5, "b"), record("a", 3, "now"))
		lay(t, d, 0, state+strings.Repeat("\x00", 32-len(state)))
		traces(t, fmt.Sprintf("a free slot of state %q", state), d, func(c *disk.Disk) api.Errno {
			return opened(t, c, 3, 2).Put("a", []byte("new"))
		}, step{1, record("a", 4, "new")}, step{0, "\x01"}, step{6, ""})
	}
}

// P11.2: numbers

func TestNumbersOfPuts(t *testing.T) {
	const slots, room = 4, 2
	d := junkDisk(t, slots, room)
	s := opened(t, d, slots, room)
	puts(t, s, "b", "other")
	for n := 1; n <= 600; n++ {
		data := strconvs(n)
		puts(t, s, "a", data)
		if slotOf(d, slots, room, record("a", n, data)) != 1+(n+1)%2 {
			t.Fatalf("the record of Put %d is not number %d in slot %d", n, n, 1+(n+1)%2)
		}
		has(t, "numbers", s, 2, "a", data, "b", "other")
		if n%7 == 0 {
			s = opened(t, d, slots, room)
		}
	}
	puts(t, s, "b", "another")
	if slotOf(d, slots, room, record("b", 2, "another")) < 0 {
		t.Error("the second record of a name is not number 2, where another name has many")
	}
	drops(t, s, "a")
	puts(t, s, "a", "anew")
	if slotOf(d, slots, room, record("a", 1, "anew")) < 0 {
		t.Error("the record behind Drop and Put is not number 1")
	}
	puts(t, s, "a", "again")
	if slotOf(d, slots, room, record("a", 2, "again")) < 0 {
		t.Error("the record behind Drop and two Puts is not number 2")
	}
	has(t, "numbers", s, 2, "a", "again", "b", "another")
}

// strconvs is a text that tells n.
func strconvs(n int) string { return fmt.Sprintf("data %d", n) }

func TestNumbersOfWhatStood(t *testing.T) {
	for _, n := range []int{0, 1, 2, 254, 255, 256, 65534, 65535, 65536, 1<<24 - 1, 1 << 24, 1<<31 - 1, 1 << 31, 1<<32 - 2} {
		d := laid(t, 2, 1, record("a", n, "x"))
		s := opened(t, d, 2, 1)
		puts(t, s, "a", "y")
		if slotOf(d, 2, 1, record("a", n+1, "y")) != 1 {
			t.Errorf("behind number %d stands %q", n, image(d))
		}
		has(t, "numbers", s, 1, "a", "y")
		has(t, "numbers, opened again", opened(t, d, 2, 1), 1, "a", "y")
	}
	// There is no greater number: it is as its four bytes tell it.
	d := laid(t, 3, 1, record("a", 1<<32-1, "x"))
	s := opened(t, d, 3, 1)
	for n, data := range []string{"y", "z", "w"} {
		puts(t, s, "a", data)
		if slotOf(d, 3, 1, record("a", n, data)) < 0 {
			t.Errorf("%d Puts behind the greatest number stands %q", n+1, image(d))
		}
		has(t, "behind the greatest number", s, 2, "a", data)
	}
}

// P11.2: which slot is the first free one

func TestFirstFreeSlot(t *testing.T) {
	const slots, room = 5, 1
	d := junkDisk(t, slots, room)
	s := opened(t, d, slots, room)
	at := func(name string, number, want int) {
		t.Helper()
		puts(t, s, name, "of "+name)
		if got := slotOf(d, slots, room, record(name, number, "of "+name)); got != want {
			t.Fatalf("Put(%q): slot %d, want %d", name, got, want)
		}
	}
	at("a", 1, 0)
	at("b", 1, 1)
	at("c", 1, 2)
	at("d", 1, 3)
	drops(t, s, "c")
	at("e", 1, 2)
	drops(t, s, "d")
	drops(t, s, "a")
	drops(t, s, "b")
	at("f", 1, 0)
	at("e", 2, 1)
	at("g", 1, 2)
	at("h", 1, 3)
	at("f", 2, 4)
	at("g", 2, 0)
	at("i", 1, 2)
	if err := s.Put("i", nil); err != api.ErrSpace {
		t.Errorf("Put into a full store = %d, want ErrSpace", err)
	}
	drops(t, s, "h")
	drops(t, s, "g")
	s = opened(t, d, slots, room)
	at("i", 2, 0)
	at("j", 1, 2)
	has(t, "slots", s, 1, "e", "of e", "f", "of f", "i", "of i", "j", "of j")
}

// P11.2: Puts that are refused; which error comes where several would

func TestPutRefused(t *testing.T) {
	long := []byte(letters(50))
	full := laid(t, 2, 1, record("a", 1, "x"), record("b", 1, "y"))
	some := laid(t, 2, 1, record("a", 1, "x"))
	for _, r := range []struct {
		what string
		disk *disk.Disk
		name string
		data []byte
		want api.Errno
	}{
		{"a full store", full, "c", []byte("z"), api.ErrSpace},
		{"a full store, a name that is there", full, "a", []byte("z"), api.ErrSpace},
		{"a full store, the same data", full, "b", []byte("y"), api.ErrSpace},
		{"a full store, no data", full, "", nil, api.ErrSpace},
		{"a full store, too long", full, "c", long, api.ErrArg},
		{"a full store, too long, a name that is there", full, "a", long, api.ErrArg},
		{"a full store, a name that is too long", full, letters(33), nil, api.ErrArg},
		{"too long", some, "c", long, api.ErrArg},
		{"too long, a name that is there", some, "a", long, api.ErrArg},
		{"a name that is too long", some, letters(33), nil, api.ErrArg},
	} {
		for _, at := range []int{-1, 0, 1, 9} {
			d := r.disk.Clone()
			s := opened(t, d, 2, 1)
			d.Stop(at, 3)
			m := makerOf(d, 2, 1)
			for range 3 {
				if err := s.Put(r.name, r.data); err != r.want {
					t.Errorf("%s, Stop(%d, 3) ahead: Put = %d, want %d", r.what, at, err, r.want)
				}
			}
			holds(t, r.what, s, d, m, "c", "")
			// What is refused is no write that Stop counts.
			c := d.Clone()
			n := 0
			for c.Write(1, nil) == api.OK && n < 20 {
				n++
			}
			if n != max(at, 0) {
				t.Errorf("%s: Stop(%d, 3) lets %d writes end well", r.what, at, n)
			}
		}
	}
}

// With a slot free a name that is there can be put again and again; without it, not once, till one is dropped.
func TestPutIntoTheLastSlot(t *testing.T) {
	d := newDisk(t, 3, 1)
	s := opened(t, d, 3, 1)
	puts(t, s, "a", "1")
	puts(t, s, "b", "1")
	for n := range 10 {
		puts(t, s, "a", strconvs(n))
		has(t, "one slot free", s, 1, "a", strconvs(n), "b", "1")
		puts(t, s, "b", strconvs(n))
		has(t, "one slot free", s, 1, "a", strconvs(n), "b", strconvs(n))
		puts(t, s, "b", "1")
	}
	puts(t, s, "c", "")
	has(t, "no slot free", s, 0, "a", strconvs(9), "b", "1", "c", "")
	if err := s.Put("c", nil); err != api.ErrSpace {
		t.Errorf("Put into a full store = %d, want ErrSpace", err)
	}
	drops(t, s, "a")
	puts(t, s, "c", "2")
	has(t, "one slot free", s, 1, "b", "1", "c", "2")
	one := opened(t, newDisk(t, 1, 1), 1, 1)
	puts(t, one, "a", "1")
	if err := one.Put("a", []byte("2")); err != api.ErrSpace {
		t.Errorf("Put into the only slot = %d, want ErrSpace", err)
	}
	has(t, "the only slot", one, 0, "a", "1")
}

// The greatest number of slots, and of sectors of a record.
func TestGreatestStores(t *testing.T) {
	d := newDisk(t, 1024, 3)
	s := opened(t, d, 1024, 3)
	var pairs []string
	for n := range 1024 {
		pairs = append(pairs, fmt.Sprintf("name %04d", n), letters(n%60))
	}
	for _, n := range rand.New(rand.NewSource(1)).Perm(1024) {
		puts(t, s, pairs[2*n], pairs[2*n+1])
	}
	has(t, "1024 slots", s, 0, pairs...)
	if err := s.Put("one more", nil); err != api.ErrSpace {
		t.Errorf("Put of name 1025 = %d, want ErrSpace", err)
	}
	has(t, "1024 slots, opened again", opened(t, d, 1024, 3), 0, pairs...)
	d = newDisk(t, 3, 1024)
	s = opened(t, d, 3, 1024)
	long, longer := letters(1<<14), letters(1<<14+1)
	puts(t, s, long, "a")
	puts(t, s, longer[1:], letters(16363))
	puts(t, s, long, letters(16363))
	writes := d.Writes()
	puts(t, s, "", long)
	if d.Writes() != writes+514 {
		t.Errorf("Put of 16384 bytes: %d writes, want 514", d.Writes()-writes)
	}
	names := []string{"", long, longer[1:]}
	slices.Sort(names)
	pairs = nil
	for _, name := range names {
		if name == "" {
			pairs = append(pairs, name, long)
		} else {
			pairs = append(pairs, name, letters(16363))
		}
	}
	has(t, "1024 sectors", s, 0, pairs...)
	has(t, "1024 sectors, opened again", opened(t, d, 3, 1024), 0, pairs...)
}

// P11.2: Drop

func TestDropWrites(t *testing.T) {
	a, b, c := record("a", 4, "first"), record("b", 1, letters(60)), record("", 0, "")
	for _, r := range []struct {
		records []string
		name    string
		slot    int
	}{
		{[]string{a}, "a", 0}, {[]string{a, b, c}, "a", 0}, {[]string{a, b, c}, "b", 1}, {[]string{a, b, c}, "", 2}, {[]string{"", "", b}, "b", 2}, {[]string{c, "", a}, "a", 2}, {[]string{"", c}, "", 1},
	} {
		d := laid(t, 3, 3, r.records...)
		traces(t, fmt.Sprintf("%q, Drop(%q)", r.records, r.name), d, func(c *disk.Disk) api.Errno {
			return opened(t, c, 3, 3).Drop(r.name)
		}, step{4 * r.slot, ""})
	}
}

func TestDropOfNone(t *testing.T) {
	for _, records := range [][]string{nil, {record("b", 1, "x")}, {record("b", 1, "x"), record("ab", 1, "y"), record("A", 1, "z")}} {
		for _, at := range []int{0, 1} {
			d := laid(t, 3, 1, records...)
			s := opened(t, d, 3, 1)
			d.Stop(at, 0)
			m := makerOf(d, 3, 1)
			for _, name := range []string{"a", "", "a\x00", "abc", letters(500)} {
				if err := s.Drop(name); err != api.ErrNone {
					t.Errorf("%q: Drop(%q) = %d, want ErrNone", records, name, err)
				}
			}
			holds(t, "Drop of none", s, d, m)
		}
	}
	s := opened(t, newDisk(t, 2, 1), 2, 1)
	puts(t, s, "a", "x")
	drops(t, s, "a")
	for range 2 {
		if err := s.Drop("a"); err != api.ErrNone {
			t.Errorf("Drop of what was dropped = %d, want ErrNone", err)
		}
	}
	has(t, "Drop of what was dropped", s, 2)
}

// P11.3: Get, Names, Free

func TestGetAndFree(t *testing.T) {
	d := newDisk(t, 4, 2)
	s := opened(t, d, 4, 2)
	none := func(names ...string) {
		t.Helper()
		for _, name := range names {
			if b, ok := s.Get(name); ok || len(b) != 0 {
				t.Errorf("Get(%.60q) = %.60q, %t, want none", name, b, ok)
			}
		}
	}
	has(t, "a new disk", s, 4)
	none("", "a", "b", letters(100), letters(1<<15))
	puts(t, s, "a", "x")
	has(t, "Put", s, 3, "a", "x")
	none("", "A", "aa", "a\x00", "b", "x")
	puts(t, s, "a", "another")
	has(t, "the name again", s, 3, "a", "another")
	puts(t, s, "a", "")
	has(t, "the name again, without data", s, 3, "a", "")
	puts(t, s, "", "empty name")
	has(t, "the empty name", s, 2, "", "empty name", "a", "")
	puts(t, s, "", "")
	has(t, "the empty name without data", s, 2, "", "", "a", "")
	puts(t, s, "b", "1:a,4:\x00\x00\x00\x01,2:xy,")
	has(t, "data that look like a record", s, 1, "", "", "a", "", "b", "1:a,4:\x00\x00\x00\x01,2:xy,")
	puts(t, s, "\xff\xfe", letters(30))
	has(t, "a full store", s, 0, "", "", "a", "", "b", "1:a,4:\x00\x00\x00\x01,2:xy,", "\xff\xfe", letters(30))
	drops(t, s, "a")
	has(t, "Drop", s, 1, "", "", "b", "1:a,4:\x00\x00\x00\x01,2:xy,", "\xff\xfe", letters(30))
	none("a")
	drops(t, s, "")
	has(t, "Drop of the empty name", s, 2, "b", "1:a,4:\x00\x00\x00\x01,2:xy,", "\xff\xfe", letters(30))
	none("a", "")
	has(t, "opened again", opened(t, d, 4, 2), 2, "b", "1:a,4:\x00\x00\x00\x01,2:xy,", "\xff\xfe", letters(30))
	drops(t, s, "\xff\xfe")
	drops(t, s, "b")
	has(t, "all dropped", s, 4)
	has(t, "all dropped, opened again", opened(t, d, 4, 2), 4)
}

// Data of every length that fits come back byte by byte, of every byte.
func TestDataOfEachLength(t *testing.T) {
	d := junkDisk(t, 2, 9)
	s := opened(t, d, 2, 9)
	for n := range 272 {
		b := make([]byte, n)
		for i := range b {
			b[i] = byte(i + n)
		}
		puts(t, s, "n", string(b))
		has(t, "data of each length", s, 1, "n", string(b))
		has(t, "data of each length, opened again", opened(t, d, 2, 9), 1, "n", string(b))
	}
}

func TestNamesRise(t *testing.T) {
	rising := []string{"", "\x00", "\x00\x00", "\x00\xff", "\x01", ",", "0", "10", "2", ":", "A", "B", "Z", "a", "a\x00", "a\x00b", "aa", "aaa", "ab", "a\x80", "b", "ba", "z", "\x7f", "\x80", "\xc3", "\xc3\xa4", "\xe2\x82\xac", "\xfe\xff", "\xff", "\xff\x00", "\xff\xff"}
	random := rand.New(rand.NewSource(11))
	for range 20 {
		d := newDisk(t, len(rising)+1, 1)
		s := opened(t, d, len(rising)+1, 1)
		there := map[string]bool{}
		for _, n := range append(random.Perm(len(rising)), random.Perm(len(rising))...) {
			if name := rising[n]; random.Intn(4) > 0 || !there[name] {
				puts(t, s, name, "x"+name)
				there[name] = true
			} else {
				drops(t, s, name)
				delete(there, name)
			}
			var pairs []string
			for _, name := range rising {
				if there[name] {
					pairs = append(pairs, name, "x"+name)
				}
			}
			has(t, "names", s, len(rising)+1-len(there), pairs...)
		}
	}
}

// Two stores on two disks know nothing of one another; nor do two on a disk and its clone.
func TestStoresApart(t *testing.T) {
	d := newDisk(t, 3, 1)
	a := opened(t, d, 3, 1)
	puts(t, a, "n", "1")
	c := d.Clone()
	b := opened(t, c, 3, 1)
	puts(t, a, "n", "2")
	puts(t, b, "m", "3")
	has(t, "the first", a, 2, "n", "2")
	has(t, "the second", b, 1, "m", "3", "n", "1")
	d.Stop(0, 0)
	if err := a.Drop("n"); err != api.ErrCrash {
		t.Errorf("Drop = %d, want ErrCrash", err)
	}
	has(t, "the second", b, 1, "m", "3", "n", "1")
	puts(t, b, "n", "4")
	has(t, "the second", b, 1, "m", "3", "n", "4")
}

func TestCallsThatChangeNothing(t *testing.T) {
	d := laid(t, 3, 2, record("a", 1, "x"), "", record("b", 5, "y"))
	s := opened(t, d, 3, 2)
	m := makerOf(d, 3, 2)
	for range 3 {
		has(t, "asked again", s, 1, "a", "x", "b", "y")
		s.Get("c")
		s.Fits("a", nil)
		s.Fits("a", make([]byte, 100))
		stands(t, "asked again", d, m)
	}
}
