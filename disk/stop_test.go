package disk_test

import (
	"bytes"
	"fmt"
	"math"
	"slices"
	"testing"

	"aumbry/api"
	"aumbry/disk"
)

// keeps are numbers of bytes that may be asked to be kept.
func keeps() []int {
	some := []int{math.MinInt, -1 << 32, -256, -33, -32, -2, -1}
	for keep := range 36 {
		some = append(some, keep)
	}
	return append(some, 64, 255, 256, 257, 261, 1<<16+1, 1<<32, 1<<32+1, math.MaxInt)
}

// torn is a sector of which the first keep bytes are of b and the noughts behind it, the others as they stood.
func torn(stood, b []byte, keep int) []byte {
	got := slices.Clone(stood)
	for i := range got {
		if i < keep && i < len(b) {
			got[i] = b[i]
		} else if i < keep {
			got[i] = 0
		}
	}
	return got
}

// until makes writes to sector 1 till one tears; it tells how many ended well, 100 at most.
func until(t *testing.T, d *disk.Disk) int {
	t.Helper()
	for n := range 100 {
		switch err := d.Write(1, full(n)); {
		case err == api.ErrCrash && d.Dead():
			return n
		case err != api.OK || d.Dead():
			t.Fatalf("write %d: %d, dead %t", n, err, d.Dead())
		}
	}
	return 100
}

// P10.2: the chapter's example

func TestExample(t *testing.T) {
	d := newDisk(t, 1)
	d.Stop(0, 1)
	if err := d.Write(0, []byte{5, 5}); err != api.ErrCrash {
		t.Errorf("Write = %d, want ErrCrash", err)
	}
	d.Start()
	stands(t, "the example", d, 0, whole(5))
}

// P10.2: Stop

func TestStopAt(t *testing.T) {
	for _, at := range []int{math.MinInt, -1 << 32, -256, -2, -1, 0, 1, 2, 3, 10, 98} {
		want := max(at, 0)
		for _, before := range []int{0, 1, 2, 5, 50} {
			d := newDisk(t, 2)
			for n := range before {
				wells(t, d, n%2, byte(n))
			}
			d.Stop(at, 0)
			if d.Dead() || d.Writes() != before {
				t.Errorf("behind Stop(%d, 0): Dead, Writes = %t, %d, want false, %d", at, d.Dead(), d.Writes(), before)
			}
			if got := until(t, d); got != want || d.Writes() != before+want {
				t.Errorf("Stop(%d, 0) behind %d writes: %d ended well, Writes %d, want %d", at, before, got, d.Writes(), want)
			}
		}
	}
}

func TestStopFarAhead(t *testing.T) {
	for _, at := range []int{100, 255, 256, 257, 1 << 16, 1 << 31, 1 << 32, 1<<32 + 1, math.MaxInt - 1, math.MaxInt} {
		d := filled(t, 7)
		d.Stop(at, 0)
		if got := until(t, d); got != 100 || d.Writes() != 107 {
			t.Errorf("Stop(%d, 0): %d writes ended well, Writes %d, want 100, 107", at, got, d.Writes())
		}
		stands(t, "Stop far ahead", d, 1, full(99))
	}
}

// More writes than two bytes count.
func TestStopBehindMany(t *testing.T) {
	const many = 70_000
	d := newDisk(t, 2)
	d.Stop(many, 3)
	for n := range many {
		wells(t, d, n%2, byte(n), byte(n>>8))
	}
	tears(t, d, 0, 1, 1, 1, 1)
	if d.Writes() != many {
		t.Errorf("Writes = %d, want %d", d.Writes(), many)
	}
}

// The writes that end well do so byte by byte; the one behind them keeps as many as Stop says, wherever it goes.
func TestStopKeep(t *testing.T) {
	for _, keep := range keeps() {
		for length := range 33 {
			for at := range 3 {
				d := filled(t, 3)
				d.Stop(at, keep)
				for n := range at {
					wells(t, d, n, full(60 + n)[:length]...)
				}
				b := full(70)[:length]
				tears(t, d, 2, b...)
				if d.Writes() != 3+at {
					t.Fatalf("Writes = %d, want %d", d.Writes(), 3+at)
				}
				d.Start()
				what := fmt.Sprintf("Stop(%d, %d), %d bytes", at, keep, length)
				for n := range 2 {
					want := full(n)
					if n < at {
						want = whole(full(60 + n)[:length]...)
					}
					stands(t, what, d, n, want)
				}
				stands(t, what, d, 2, torn(full(2), b, keep))
				if d.Writes() != 3+at || d.Dead() {
					t.Fatalf("behind Start: Writes, Dead = %d, %t, want %d, false", d.Writes(), d.Dead(), 3+at)
				}
			}
		}
	}
}

// Some torn sectors, written out.
func TestTornSectors(t *testing.T) {
	stood := append([]byte("abcdefghijklmnopqrstuvwxyz"), 1, 2, 3, 4, 5, 6)
	for _, r := range []struct {
		keep      int
		new, want string
	}{
		{0, "NEW", "abcdefghijklmnopqrstuvwxyz\x01\x02\x03\x04\x05\x06"},
		{-7, "NEW", "abcdefghijklmnopqrstuvwxyz\x01\x02\x03\x04\x05\x06"},
		{2, "NEW", "NEcdefghijklmnopqrstuvwxyz\x01\x02\x03\x04\x05\x06"},
		{3, "NEW", "NEWdefghijklmnopqrstuvwxyz\x01\x02\x03\x04\x05\x06"},
		{5, "NEW", "NEW\x00\x00fghijklmnopqrstuvwxyz\x01\x02\x03\x04\x05\x06"},
		{4, "", "\x00\x00\x00\x00efghijklmnopqrstuvwxyz\x01\x02\x03\x04\x05\x06"},
		{31, "N", "N" + nought[:30] + "\x06"},
		{32, "N", "N" + nought[:31]},
		{33, "", nought},
		{32, "ABCDEFGHIJKLMNOPQRSTUVWXYZ012345", "ABCDEFGHIJKLMNOPQRSTUVWXYZ012345"},
		{30, "ABCDEFGHIJKLMNOPQRSTUVWXYZ012345", "ABCDEFGHIJKLMNOPQRSTUVWXYZ0123\x05\x06"},
	} {
		d := newDisk(t, 2)
		wells(t, d, 1, stood...)
		d.Stop(0, r.keep)
		tears(t, d, 1, []byte(r.new)...)
		d.Start()
		stands(t, fmt.Sprintf("%q of which %d bytes are kept", r.new, r.keep), d, 1, []byte(r.want))
		stands(t, "the other sector", d, 0, whole())
	}
}

const nought = "\x00\x00\x00\x00\x00\x00\x00\x00\x00\x00\x00\x00\x00\x00\x00\x00\x00\x00\x00\x00\x00\x00\x00\x00\x00\x00\x00\x00\x00\x00\x00\x00"

// A Stop is for one death: behind Start none is ahead, however long it takes.
func TestStopOnce(t *testing.T) {
	for at := range 3 {
		d := newDisk(t, 2)
		d.Stop(at, 1)
		if got := until(t, d); got != at {
			t.Errorf("Stop(%d, 1): %d writes ended well", at, got)
		}
		d.Start()
		if got := until(t, d); got != 100 {
			t.Errorf("behind Stop(%d, 1) and Start: %d writes ended well", at, got)
		}
	}
}

func TestStopBehindStop(t *testing.T) {
	for first := -1; first < 6; first++ {
		for between := 0; between <= max(first, 0); between++ {
			for second := -1; second < 6; second++ {
				d := newDisk(t, 3)
				d.Stop(first, 7)
				for n := range between {
					wells(t, d, 0, byte(n))
				}
				d.Stop(second, 2)
				if got := until(t, d); got != max(second, 0) {
					t.Errorf("Stop(%d, 7), %d writes, Stop(%d, 2): %d more ended well", first, between, second, got)
				}
				stood := whole()
				if second > 0 {
					stood = full(second - 1)
				}
				d.Start()
				stands(t, "the torn sector", d, 1, torn(stood, full(max(second, 0)), 2))
			}
		}
	}
}

// keep is the last Stop's as well, whether it is the greater or the lesser one.
func TestKeepOfStopBehindStop(t *testing.T) {
	for _, first := range []int{-1, 0, 1, 6, 32, 50} {
		for _, second := range []int{-1, 0, 1, 6, 32, 50} {
			d := filled(t, 2)
			d.Stop(1, first)
			d.Stop(0, second)
			tears(t, d, 1, full(8)...)
			d.Start()
			stands(t, fmt.Sprintf("keep of %d, then of %d", first, second), d, 1, torn(full(1), full(8), second))
		}
	}
}

// A Stop on a dead disk neither wakes it nor outlives Start.
func TestStopOfDead(t *testing.T) {
	for _, at := range []int{-1, 0, 1, 5, math.MaxInt} {
		d := dead(t, 2)
		d.Stop(at, 3)
		for range 3 {
			if err := d.Write(1, []byte{1}); err != api.ErrCrash || !d.Dead() || d.Writes() != 2 {
				t.Errorf("Stop(%d, 3) of a dead disk, Write = %d, dead %t, Writes %d", at, err, d.Dead(), d.Writes())
			}
		}
		if b, err := d.Read(1); err != api.ErrCrash || len(b) != 0 {
			t.Errorf("Stop(%d, 3) of a dead disk, Read = %v, %d", at, b, err)
		}
		d.Start()
		stands(t, "behind a Stop of a dead disk", d, 0, torn(full(0), full(99), 5))
		stands(t, "behind a Stop of a dead disk", d, 1, full(1))
		if got := until(t, d); got != 100 {
			t.Errorf("Stop(%d, 3) of a dead disk, Start: %d writes ended well", at, got)
		}
	}
}

// P10.2: Start

func TestStartOfDead(t *testing.T) {
	for _, n := range []int{1, 2, 5} {
		d := dead(t, n)
		d.Start()
		if d.Dead() || d.Writes() != n || d.Len() != n {
			t.Errorf("behind Start: Dead, Writes, Len = %t, %d, %d", d.Dead(), d.Writes(), d.Len())
		}
		for i := 1; i < n; i++ {
			stands(t, "behind Start", d, i, full(i))
		}
		stands(t, "behind Start", d, 0, torn(full(0), full(99), 5))
		for i := range n {
			wells(t, d, i, full(20+i)...)
			stands(t, "a write behind Start", d, i, full(20+i))
		}
		if d.Writes() != 2*n {
			t.Errorf("Writes = %d, want %d", d.Writes(), 2*n)
		}
	}
}

func TestStartOfLiving(t *testing.T) {
	d := filled(t, 3)
	d.Start()
	d.Start()
	if d.Dead() || d.Writes() != 3 {
		t.Errorf("Start of a disk that lives: Dead, Writes = %t, %d", d.Dead(), d.Writes())
	}
	for i := range 3 {
		stands(t, "Start of a disk that lives", d, i, full(i))
	}
	if got := until(t, d); got != 100 {
		t.Errorf("Start of a disk that lives: %d writes ended well", got)
	}
}

func TestStartForgetsStop(t *testing.T) {
	for at := range 4 {
		for between := range at + 1 {
			d := filled(t, 2)
			d.Stop(at, 9)
			for n := range between {
				wells(t, d, 0, byte(n))
			}
			d.Start()
			if d.Dead() || d.Writes() != 2+between {
				t.Errorf("Start with a Stop ahead: Dead, Writes = %t, %d", d.Dead(), d.Writes())
			}
			if got := until(t, d); got != 100 {
				t.Errorf("Stop(%d, 9), %d writes, Start: %d more ended well", at, between, got)
			}
		}
	}
}

// Disks that die again and again, at other places each time.
func TestDeathsInARow(t *testing.T) {
	d, l := newDisk(t, 2), &log{sectors: 2}
	for n := range 40 {
		d.Stop(n%4, n)
		l.stop(n%4, n)
		for w := range 6 {
			b := full(n*6 + w)[:(n*5+w)%33]
			if got, want := d.Write(1, b), l.write(1, b); got != want {
				t.Errorf("death %d, write %d: %d, want %d", n, w, got, want)
			}
		}
		holdsWithin(t, fmt.Sprintf("death %d", n), d, l)
		d.Start()
		l.start()
		holdsWithin(t, fmt.Sprintf("start %d", n), d, l)
	}
}

// P10.2: Dead, Writes

func TestDeadAndWrites(t *testing.T) {
	d := newDisk(t, 2)
	tell := func(what string, died bool, writes int) {
		t.Helper()
		if d.Dead() != died || d.Writes() != writes || d.Dead() != died || d.Writes() != writes {
			t.Errorf("%s: Dead, Writes = %t, %d, want %t, %d", what, d.Dead(), d.Writes(), died, writes)
		}
	}
	tell("a new disk", false, 0)
	wells(t, d, 0, 1)
	tell("a write", false, 1)
	wells(t, d, 0, 1)
	tell("the same write", false, 2)
	wells(t, d, 1)
	tell("a write of nothing", false, 3)
	d.Write(2, nil)
	d.Write(-1, []byte{1})
	d.Write(0, make([]byte, 33))
	tell("refused writes", false, 3)
	d.Read(0)
	d.Read(9)
	tell("reads", false, 3)
	d.Stop(1, 32)
	tell("a Stop", false, 3)
	wells(t, d, 1, 2)
	tell("the write ahead of it", false, 4)
	tears(t, d, 1, full(1)...)
	tell("the torn write, of which all is kept", true, 4)
	d.Write(1, nil)
	tell("a write on a dead disk", true, 4)
	d.Stop(2, 2)
	tell("a Stop on a dead disk", true, 4)
	d.Start()
	tell("a Start", false, 4)
	stands(t, "the torn write, of which all is kept", d, 1, full(1))
	d.Stop(0, 0)
	tears(t, d, 0, 8)
	tell("the torn write, of which nothing is kept", true, 4)
	d.Start()
	d.Start()
	tell("a Start", false, 4)
	wells(t, d, 0)
	tell("a write behind it", false, 5)
}

// P10.2: Clone

func TestCloneOfLiving(t *testing.T) {
	d := filled(t, 3)
	c := d.Clone()
	if c == d || c.Len() != 3 || c.Dead() || c.Writes() != 3 {
		t.Fatalf("Clone: Len, Dead, Writes = %d, %t, %d; or it is the disk", c.Len(), c.Dead(), c.Writes())
	}
	wells(t, d, 0, 1)
	wells(t, c, 1, 2)
	wells(t, c, 2, 3)
	for i, want := range [][]byte{whole(1), full(1), full(2)} {
		stands(t, "the disk", d, i, want)
	}
	for i, want := range [][]byte{full(0), whole(2), whole(3)} {
		stands(t, "the clone", c, i, want)
	}
	if d.Writes() != 4 || c.Writes() != 5 {
		t.Errorf("Writes = %d, the clone's %d, want 4, 5", d.Writes(), c.Writes())
	}
	if d.Stop(0, 1); until(t, c) != 100 || d.Dead() {
		t.Error("a Stop of the disk is one of its clone")
	}
	if c.Stop(0, 1); until(t, d) != 0 || c.Dead() {
		t.Error("a Stop of the disk is forgotten, or the clone died with it")
	}
	if d.Start(); until(t, c) != 0 || d.Dead() {
		t.Error("a Start of the disk is one of its clone")
	}
	if c.Start(); until(t, d) != 100 {
		t.Error("a Stop of the clone is one of the disk")
	}
}

func TestCloneOfDead(t *testing.T) {
	d := dead(t, 2)
	c := d.Clone()
	if !c.Dead() || c.Writes() != 2 || c.Len() != 2 {
		t.Errorf("the clone of a dead disk: Dead, Writes, Len = %t, %d, %d", c.Dead(), c.Writes(), c.Len())
	}
	if b, err := c.Read(0); err != api.ErrCrash || len(b) != 0 {
		t.Errorf("the clone of a dead disk: Read = %v, %d", b, err)
	}
	if err := c.Write(0, nil); err != api.ErrCrash {
		t.Errorf("the clone of a dead disk: Write = %d", err)
	}
	c.Start()
	if c.Dead() || !d.Dead() {
		t.Errorf("behind the clone's Start: dead %t, the disk %t", c.Dead(), d.Dead())
	}
	stands(t, "the clone of a dead disk", c, 0, torn(full(0), full(99), 5))
	wells(t, c, 0)
	d.Start()
	stands(t, "the disk", d, 0, torn(full(0), full(99), 5))
	stands(t, "the clone", c, 0, whole())
	e := dead(t, 2)
	f := e.Clone()
	if e.Start(); e.Dead() || !f.Dead() {
		t.Errorf("behind the disk's Start: dead %t, its clone %t", e.Dead(), f.Dead())
	}
}

func TestCloneWithStopAhead(t *testing.T) {
	for at := range 5 {
		for between := range at + 1 {
			for _, keep := range []int{-1, 0, 3, 32, 40} {
				d := filled(t, 2)
				d.Stop(at, keep)
				for n := range between {
					wells(t, d, 1, byte(n))
				}
				c := d.Clone()
				e := c.Clone()
				c.Stop(at+3, 1)
				if got := until(t, d); got != at-between || c.Dead() || e.Dead() {
					t.Errorf("Stop(%d, %d) and %d writes ahead of Clone: %d more ended well; or a clone died", at, keep, between, got)
				}
				if got := until(t, e); got != at-between || e.Writes() != 2+at || c.Writes() != 2+between {
					t.Errorf("Stop(%d, %d) and %d writes ahead of Clone: %d more of the clone ended well", at, keep, between, got)
				}
				if got := until(t, c); got != at+3 {
					t.Errorf("a Stop of the clone: %d writes ended well, want %d", got, at+3)
				}
				d.Start()
				e.Start()
				one, _ := d.Read(1)
				if other, _ := e.Read(1); !bytes.Equal(one, other) {
					t.Errorf("Stop(%d, %d): torn %v, of the clone %v", at, keep, one, other)
				}
			}
		}
	}
}

// A clone's clone, and all of them apart.
func TestClonesOfClones(t *testing.T) {
	d := newDisk(t, 3)
	all := []*disk.Disk{d}
	for n := range 5 {
		wells(t, all[n], 0, byte(n+1))
		all = append(all, all[n].Clone())
	}
	for n, c := range all {
		wells(t, c, 2, byte(100+n))
	}
	for n, c := range all {
		stands(t, "clones of clones", c, 0, whole(byte(min(n+1, 5))))
		stands(t, "clones of clones", c, 1, whole())
		stands(t, "clones of clones", c, 2, whole(byte(100+n)))
		if want := min(n+1, 5) + 1; c.Writes() != want {
			t.Errorf("clone %d: Writes = %d, want %d", n, c.Writes(), want)
		}
	}
}
