package store_test

import (
	"bytes"
	"slices"
	"testing"
	"unsafe"

	"aumbry/api"
)

// spoil overwrites a list, and what lies behind its length in its memory.
func spoil(b []byte) {
	b = b[:cap(b)]
	for i := range b {
		b[i] = '#'
	}
}

// named is a name of bytes that can be overwritten, and these.
func named(name string) (string, []byte) {
	b := []byte(name)
	return unsafe.String(unsafe.SliceData(b), len(b)), b
}

// R4: what is handed in is neither changed nor kept; what lies behind its length is neither read nor written.
func TestMemoryOfPut(t *testing.T) {
	for _, length := range []int{0, 1, 17, 18, 40, 78} {
		d := newDisk(t, 3, 3)
		s := opened(t, d, 3, 3)
		all := []byte(letters(100))
		before := bytes.Clone(all)
		data := all[3 : 3+length]
		want := string(data)
		name, under := named("name")
		if err := s.Put(name, data); err != api.OK {
			t.Fatalf("Put of %d bytes = %d", length, err)
		}
		s.Fits(name, data)
		if !bytes.Equal(all, before) || string(under) != "name" {
			t.Errorf("Put of %d bytes changes what was handed in: %q, %q", length, all, under)
		}
		m := makerOf(d, 3, 3)
		spoil(all)
		spoil(under)
		has(t, "what was handed in is spoilt", s, 2, "name", want)
		stands(t, "what was handed in is spoilt", d, m)
		if _, ok := s.Get("####"); ok {
			t.Error("the name follows what was handed in")
		}
		// Put over an elder one, of a name in new memory.
		name, under = named("name")
		if err := s.Put(name, []byte("2")); err != api.OK {
			t.Fatalf("Put = %d", err)
		}
		spoil(under)
		has(t, "the name again", s, 2, "name", "2")
		name, under = named("name")
		s.Get(name)
		if err := s.Drop(name); err != api.OK || string(under) != "name" {
			t.Errorf("Drop = %d, of %q", err, under)
		}
	}
}

// What is refused is not changed either.
func TestMemoryOfRefusedPut(t *testing.T) {
	s := opened(t, laid(t, 1, 1, record("a", 1, "x")), 1, 1)
	for _, length := range []int{3, 60} {
		all := []byte(letters(100))
		before := bytes.Clone(all)
		if err := s.Put("b", all[:length]); err == api.OK || !bytes.Equal(all, before) {
			t.Errorf("Put of %d bytes = %d, and what was handed in is %q", length, err, all)
		}
		spoil(all)
		has(t, "a refused Put", s, 0, "a", "x")
	}
}

// nil and the empty list are the same.
func TestNilAndEmpty(t *testing.T) {
	d := newDisk(t, 2, 1)
	s := opened(t, d, 2, 1)
	for _, data := range [][]byte{nil, {}} {
		if err := s.Put("a", data); err != api.OK {
			t.Fatalf("Put = %d", err)
		}
		has(t, "no data", s, 1, "a", "")
		if _, ok := s.Get("a"); !ok || !s.Fits("a", data) {
			t.Error("no data are none")
		}
	}
}

// R4: each list that is handed out is new memory.
func TestMemoryOfAnswers(t *testing.T) {
	for _, reopened := range []bool{false, true} {
		d := newDisk(t, 4, 2)
		s := opened(t, d, 4, 2)
		puts(t, s, "a", "data of a")
		puts(t, s, "b", "data of b")
		if reopened {
			s = opened(t, d, 4, 2)
		}
		m := makerOf(d, 4, 2)
		first, _ := s.Get("a")
		second, _ := s.Get("a")
		other, _ := s.Get("b")
		spoil(first)
		if string(second) != "data of a" || string(other) != "data of b" {
			t.Errorf("a spoilt answer spoils others: %q, %q", second, other)
		}
		names := s.Names()
		again := s.Names()
		names = names[:cap(names)]
		for i := range names {
			names[i] = "#"
		}
		if !slices.Equal(again, []string{"a", "b"}) {
			t.Errorf("a spoilt answer spoils another: %q", again)
		}
		has(t, "spoilt answers", s, 2, "a", "data of a", "b", "data of b")
		stands(t, "spoilt answers", d, m)
		puts(t, s, "a", "DATA OF A")
		drops(t, s, "b")
		if string(second) != "data of a" || string(other) != "data of b" || !slices.Equal(again, []string{"a", "b"}) {
			t.Errorf("later calls change what was handed back before: %q, %q, %q", second, other, again)
		}
	}
}

// Names are bytes of their own, shared neither with what was handed in nor with the store, nor by two answers.
func TestMemoryOfNames(t *testing.T) {
	for _, reopened := range []bool{false, true} {
		d := newDisk(t, 4, 2)
		s := opened(t, d, 4, 2)
		given := "a name"
		puts(t, s, given, "data")
		if reopened {
			s = opened(t, d, 4, 2)
		}
		one, two := s.Names(), s.Names()
		if unsafe.StringData(one[0]) == unsafe.StringData(two[0]) || unsafe.StringData(one[0]) == unsafe.StringData(given) {
			t.Error("names share memory")
		}
		spoil(unsafe.Slice(unsafe.StringData(one[0]), len(one[0])))
		has(t, "a spoilt name", s, 3, given, "data")
		if two[0] != "a name" {
			t.Errorf("a spoilt name spoils another one: %q", two[0])
		}
	}
}

// What one name's data tell, put under another one, ties neither to the other.
func TestMemoryOfGetAndPut(t *testing.T) {
	s := opened(t, newDisk(t, 4, 2), 4, 2)
	puts(t, s, "a", "data")
	b, _ := s.Get("a")
	if err := s.Put("b", b); err != api.OK {
		t.Fatalf("Put = %d", err)
	}
	if err := s.Put("a", b); err != api.OK {
		t.Fatalf("Put = %d", err)
	}
	spoil(b)
	has(t, "what was read, put", s, 2, "a", "data", "b", "data")
}

// The disk is used as it is: a Stop told to it behind Open counts the store's writes.
func TestDiskIsTheOneHandedIn(t *testing.T) {
	d := newDisk(t, 3, 1)
	s := opened(t, d, 3, 1)
	puts(t, s, "a", "x")
	if d.Writes() != 2 {
		t.Errorf("Writes = %d, want 2", d.Writes())
	}
	d.Stop(3, 0)
	puts(t, s, "a", "y")
	if err := s.Put("a", nil); err != api.ErrCrash || !d.Dead() {
		t.Errorf("Put = %d, the disk's Dead %t", err, d.Dead())
	}
}
