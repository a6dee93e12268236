package disk_test

import (
	"bytes"
	"testing"

	"aumbry/api"
	"aumbry/disk"
)

// within is b in memory that has others behind its length.
func within(b []byte) []byte {
	return append(bytes.Clone(b), bytes.Repeat([]byte{'?'}, 50)...)[:len(b)]
}

// untouched says whether what within made of b is as it was, also behind its length.
func untouched(b, got []byte) bool {
	return bytes.Equal(got[:len(b)+50], append(bytes.Clone(b), bytes.Repeat([]byte{'?'}, 50)...))
}

// spoil writes over all that a list's memory has.
func spoil(b []byte) {
	b = b[:cap(b)]
	for i := range b {
		b[i] = '#'
	}
}

func TestMemoryOfWrite(t *testing.T) {
	for length := range 33 {
		b := full(4)[:length]
		d := filled(t, 2)
		in := within(b)
		wells(t, d, 1, in...)
		if !untouched(b, in) {
			t.Errorf("Write of %d bytes changes what was handed in", length)
		}
		spoil(in)
		stands(t, "behind Write of bytes within others", d, 1, whole(b...))
		stands(t, "the other sector", d, 0, full(0))
	}
}

func TestMemoryOfTornWrite(t *testing.T) {
	for length := range 33 {
		for _, keep := range []int{0, 1, 16, 31, 32, 40} {
			b := full(4)[:length]
			d := filled(t, 2)
			in := within(b)
			d.Stop(0, keep)
			if err := d.Write(1, in); err != api.ErrCrash || !untouched(b, in) {
				t.Errorf("the torn Write of %d bytes = %d, or it changes what was handed in", length, err)
			}
			spoil(in)
			d.Start()
			stands(t, "behind a torn Write of bytes within others", d, 1, torn(full(1), b, keep))
		}
	}
}

func TestMemoryOfRefusedWrite(t *testing.T) {
	for _, d := range []*disk.Disk{filled(t, 2), dead(t, 2)} {
		for _, i := range []int{-1, 0, 1, 2} {
			for _, length := range []int{0, 1, 32, 33, 64} {
				if i >= 0 && i < 2 && length <= 32 && !d.Dead() {
					continue
				}
				b := bytes.Repeat([]byte{3}, length)
				in := within(b)
				if err := d.Write(i, in); err == api.OK || !untouched(b, in) {
					t.Errorf("a refused Write(%d) of %d bytes = %d, or it changes what was handed in", i, length, err)
				}
				spoil(in)
			}
		}
		d.Start()
		stands(t, "behind refused writes", d, 1, full(1))
	}
}

func TestMemoryOfRead(t *testing.T) {
	d := filled(t, 2)
	first, _ := d.Read(0)
	second, _ := d.Read(0)
	other, _ := d.Read(1)
	spoil(first)
	if !bytes.Equal(second, full(0)) || !bytes.Equal(other, full(1)) {
		t.Errorf("Read lies in memory that was handed back before: %v, %v", second, other)
	}
	stands(t, "behind a spoilt answer", d, 0, full(0))
	stands(t, "behind a spoilt answer", d, 1, full(1))
	wells(t, d, 0, 1)
	if !bytes.Equal(second, full(0)) {
		t.Errorf("a Write changes what was handed back before: %v", second)
	}
	c := d.Clone()
	mine, _ := d.Read(1)
	spoil(mine)
	its, _ := c.Read(1)
	spoil(its)
	stands(t, "the disk", d, 1, full(1))
	stands(t, "its clone", c, 1, full(1))
}

// What one sector tells, written to another one, ties neither to the other.
func TestMemoryOfReadAndWrite(t *testing.T) {
	d := filled(t, 2)
	b, _ := d.Read(0)
	wells(t, d, 1, b...)
	spoil(b)
	stands(t, "the sector that was read", d, 0, full(0))
	stands(t, "the sector that was written", d, 1, full(0))
	wells(t, d, 0, 9)
	stands(t, "the sector that was written", d, 1, full(0))
}
