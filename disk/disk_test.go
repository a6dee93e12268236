package disk_test

import (
	"bytes"
	"fmt"
	"math"
	"testing"

	"aumbry/api"
	"aumbry/disk"
)

// noPlaces are numbers that are no sector of a disk of n.
func noPlaces(n int) []int {
	return []int{-1, -2, -n, -n - 1, -256, -1 << 32, math.MinInt, n, n + 1, 2 * n, n + 256, n + api.MaxSectors, 1 << 16, 1 << 32, 1<<32 + 1, math.MaxInt}
}

// tooLong are lengths that no sector has.
func tooLong() []int { return []int{33, 34, 40, 64, 65, 255, 256, 257, 288, 1 << 14, 1<<16 + 1} }

// filled is a disk of n sectors, each full of its own bytes.
func filled(t *testing.T, n int) *disk.Disk {
	t.Helper()
	d := newDisk(t, n)
	for i := range n {
		wells(t, d, i, full(i)...)
	}
	return d
}

// dead is a disk of n sectors that is filled and dead: its first sector tore within full(99).
func dead(t *testing.T, n int) *disk.Disk {
	t.Helper()
	d := filled(t, n)
	d.Stop(0, 5)
	tears(t, d, 0, full(99)...)
	return d
}

// P10.1: New, Len

func TestNew(t *testing.T) {
	for _, n := range []int{1, 2, 3, 7, 31, 32, 33, 255, 256, 257, 1000, 4095, 4096} {
		d := newDisk(t, n)
		if d.Len() != n || d.Dead() || d.Writes() != 0 {
			t.Errorf("New(%d): Len, Dead, Writes = %d, %t, %d", n, d.Len(), d.Dead(), d.Writes())
		}
		for i := range n {
			stands(t, fmt.Sprintf("New(%d)", n), d, i, make([]byte, 32))
		}
		for _, i := range []int{-1, n} {
			if b, err := d.Read(i); err != api.ErrArg || len(b) != 0 {
				t.Errorf("New(%d): Read(%d) = %v, %d", n, i, b, err)
			}
		}
	}
}

func TestNewOfNone(t *testing.T) {
	for _, n := range []int{0, -1, -2, -32, -4096, -1 << 32, math.MinInt, 4097, 4098, 8192, 1 << 16, 1 << 31, 1 << 32, 1<<32 + 1, math.MaxInt} {
		if d, err := disk.New(n); err != api.ErrArg || d != nil {
			t.Errorf("New(%d) = %v, %d, want no disk, ErrArg", n, d, err)
		}
	}
}

func TestLenStays(t *testing.T) {
	for _, n := range []int{1, 5, 4096} {
		d := dead(t, n)
		c := d.Clone()
		if d.Len() != n || c.Len() != n {
			t.Errorf("a dead disk of %d: Len = %d, its clone's %d", n, d.Len(), c.Len())
		}
		d.Stop(3, 3)
		d.Start()
		d.Write(n, nil)
		d.Stop(3, 3)
		if d.Len() != n {
			t.Errorf("a disk of %d: Len = %d", n, d.Len())
		}
	}
}

// Two disks know nothing of one another.
func TestDisksApart(t *testing.T) {
	a, b := newDisk(t, 2), newDisk(t, 2)
	wells(t, a, 1, 1, 2, 3)
	a.Stop(0, 9)
	tears(t, a, 0, 9)
	if b.Dead() || b.Writes() != 0 {
		t.Errorf("another disk: Dead, Writes = %t, %d", b.Dead(), b.Writes())
	}
	wells(t, b, 0, 7)
	stands(t, "another disk", b, 1, whole())
	stands(t, "another disk", b, 0, whole(7))
	if !a.Dead() || a.Writes() != 1 {
		t.Errorf("the first disk: Dead, Writes = %t, %d", a.Dead(), a.Writes())
	}
}

// P10.1: Read, Write

func TestWriteOfEachLength(t *testing.T) {
	for length := range 33 {
		for i := range 3 {
			d := filled(t, 3)
			b := full(50)[:length]
			wells(t, d, i, b...)
			stands(t, fmt.Sprintf("Write of %d bytes over a full sector", length), d, i, whole(b...))
			wells(t, d, i, full(51)...)
			stands(t, "a full Write over it", d, i, full(51))
			wells(t, d, i)
			stands(t, "a Write of nothing", d, i, whole())
		}
	}
}

// What stood in a sector does not matter to a write: more bytes, fewer, noughts among them.
func TestWriteOverWhatStood(t *testing.T) {
	d := newDisk(t, 1)
	for _, b := range [][]byte{{1}, {2, 3, 4}, {5}, nil, {0, 0, 6}, {7}, full(1), {8, 0}, full(2)[:31], full(3), {0}, full(4), {}, full(5), make([]byte, 32), {9, 9}} {
		wells(t, d, 0, b...)
		stands(t, "behind Write", d, 0, whole(b...))
	}
	if d.Writes() != 16 {
		t.Errorf("Writes = %d, want 16", d.Writes())
	}
}

func TestWriteOfItsSectorAlone(t *testing.T) {
	for _, n := range []int{1, 2, 5, 16} {
		for i := range n {
			d := filled(t, n)
			wells(t, d, i, 1, 2)
			for j := range n {
				want := full(j)
				if j == i {
					want = whole(1, 2)
				}
				stands(t, fmt.Sprintf("Write to sector %d of %d", i, n), d, j, want)
			}
		}
	}
}

// Each sector of the greatest disk is one of its own.
func TestGreatestDisk(t *testing.T) {
	d := newDisk(t, api.MaxSectors)
	for i := range api.MaxSectors {
		wells(t, d, i, byte(i), byte(i>>8), 77)
	}
	for i := range api.MaxSectors {
		stands(t, "the greatest disk", d, i, whole(byte(i), byte(i>>8), 77))
	}
	if d.Writes() != api.MaxSectors {
		t.Errorf("Writes = %d, want %d", d.Writes(), api.MaxSectors)
	}
}

func TestReadChangesNothing(t *testing.T) {
	d := filled(t, 2)
	d.Stop(1, 3)
	for range 5 {
		stands(t, "read again", d, 0, full(0))
		stands(t, "read again", d, 1, full(1))
	}
	if d.Writes() != 2 || d.Dead() {
		t.Errorf("Writes, Dead = %d, %t, want 2, false", d.Writes(), d.Dead())
	}
	wells(t, d, 0, 1)
	tears(t, d, 1, 1, 1, 1, 1)
}

// refusals makes all calls of a disk of n that are refused, dead or not, and holds that it is as it was.
func refusals(t *testing.T, d *disk.Disk, n int) {
	t.Helper()
	died, writes := d.Dead(), d.Writes()
	for _, i := range noPlaces(n) {
		if b, err := d.Read(i); err != api.ErrArg || len(b) != 0 {
			t.Errorf("Read(%d) of %d = %v, %d, want ErrArg", i, n, b, err)
		}
		for _, length := range []int{0, 1, 31, 32, 33, 1000} {
			if err := d.Write(i, bytes.Repeat([]byte{4}, length)); err != api.ErrArg {
				t.Errorf("Write(%d) of %d bytes to %d sectors = %d, want ErrArg", i, length, n, err)
			}
		}
	}
	for i := range n {
		for _, length := range tooLong() {
			if err := d.Write(i, make([]byte, length)); err != api.ErrArg {
				t.Errorf("Write(%d) of %d bytes = %d, want ErrArg", i, length, err)
			}
		}
	}
	if d.Dead() != died || d.Writes() != writes || d.Len() != n {
		t.Errorf("behind refused calls: Dead, Writes, Len = %t, %d, %d, want %t, %d, %d", d.Dead(), d.Writes(), d.Len(), died, writes, n)
	}
}

func TestRefusedWhereItLives(t *testing.T) {
	for _, n := range []int{1, 2, 5} {
		d := filled(t, n)
		refusals(t, d, n)
		for i := range n {
			stands(t, "behind refused calls", d, i, full(i))
		}
		wells(t, d, n-1, 5)
		wells(t, d, 0, 6)
		if d.Writes() != n+2 {
			t.Errorf("Writes = %d, want %d", d.Writes(), n+2)
		}
	}
}

// A place, or bytes, that may not be are named first, ahead of the crash.
func TestRefusedWhereItIsDead(t *testing.T) {
	for _, n := range []int{1, 2, 5} {
		d := dead(t, n)
		refusals(t, d, n)
		for i := range n {
			if b, err := d.Read(i); err != api.ErrCrash || len(b) != 0 {
				t.Errorf("a dead disk: Read(%d) = %v, %d, want ErrCrash", i, b, err)
			}
			for _, length := range []int{0, 1, 31, 32} {
				if err := d.Write(i, full(3)[:length]); err != api.ErrCrash {
					t.Errorf("a dead disk: Write(%d) of %d bytes = %d, want ErrCrash", i, length, err)
				}
			}
		}
		if !d.Dead() || d.Writes() != n {
			t.Errorf("a dead disk: Dead, Writes = %t, %d, want true, %d", d.Dead(), d.Writes(), n)
		}
		d.Start()
		stands(t, "the torn sector", d, 0, append(full(99)[:5], full(0)[5:]...))
		for i := 1; i < n; i++ {
			stands(t, "behind calls on a dead disk", d, i, full(i))
		}
	}
}

// A write that is refused is none of those that Stop counts, nor the one that tears.
func TestRefusedAheadOfStop(t *testing.T) {
	for at := range 4 {
		d := filled(t, 3)
		d.Stop(at, 2)
		refusals(t, d, 3)
		for i := range at {
			wells(t, d, 1, byte(i))
			refusals(t, d, 3)
		}
		tears(t, d, 2, 7, 7, 7)
		refusals(t, d, 3)
		d.Start()
		stands(t, "the torn sector", d, 2, append([]byte{7, 7}, full(2)[2:]...))
		if d.Writes() != 3+at {
			t.Errorf("Writes = %d, want %d", d.Writes(), 3+at)
		}
	}
}
