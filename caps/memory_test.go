package caps_test

import (
	"bytes"
	"fmt"
	"testing"
	"unsafe"

	"aumbry/api"
	"aumbry/caps"
)

// R4

// spoil overwrites a list and what lies behind its length in its memory.
func spoil(b []byte) {
	b = b[:cap(b)]
	for i := range b {
		b[i] = '#'
	}
}

// within hands out a capability whose Lit lies within other memory, and all of that.
func within(c api.Cap, tail int) (api.Cap, []byte) {
	all := append(append([]byte("ahead"), c.Lit...), bytesOf(tail)...)
	c.Lit = all[5 : 5+len(c.Lit)]
	return c, all
}

// calls are all calls that tell a capability of one.
func calls() map[string]func(api.Cap) (api.Cap, api.Errno) {
	return map[string]func(api.Cap) (api.Cap, api.Errno){
		"ReadOnly": caps.ReadOnly, "VerifyOnly": caps.VerifyOnly, "Dir": caps.Dir,
		"Parse of Print": func(c api.Cap) (api.Cap, api.Errno) {
			s, err := caps.Print(c)
			if err != api.OK {
				return api.Cap{}, err
			}
			return caps.Parse(s)
		},
	}
}

// Every Lit, and what lies behind it, stays as it is, whatever is asked; what was told does not follow it, nor it what was told.
func TestMemoryOfLits(t *testing.T) {
	for _, from := range append(allValid(), wrong(api.Literal)...) {
		for _, tail := range []int{0, 1, 70} {
			for name, call := range calls() {
				what := fmt.Sprintf("%s of %s, %d bytes behind its Lit", name, show(from), tail)
				c, all := within(from, tail)
				before := bytes.Clone(all)
				told, err := call(c)
				again, errAgain := call(c)
				want, wantErr := call(from)
				isCap(t, what, told, err, want, wantErr)
				isCap(t, what+", again", again, errAgain, want, wantErr)
				spoil(again.Lit)
				isCap(t, what+", and spoilt what was told then", told, err, want, wantErr)
				spoil(all)
				isCap(t, what+", and spoilt what was handed in", told, err, want, wantErr)
				copy(all, before)
				spoil(told.Lit)
				if !bytes.Equal(all, before) {
					t.Errorf("%s tells what was handed in", what)
				}
			}
		}
	}
}

func TestMemoryOfQuestions(t *testing.T) {
	for _, from := range append(allValid(), wrong(api.Literal)...) {
		for _, tail := range []int{0, 1, 70} {
			c, all := within(from, tail)
			before := bytes.Clone(all)
			s, err := caps.Print(c)
			want, wantErr := otherPrint(from)
			if s != want || err != wantErr {
				t.Errorf("Print of %s, with %d bytes behind its Lit = %q, %d", show(from), tail, s, err)
			}
			caps.Valid(c)
			caps.CanRead(c)
			caps.CanWrite(c)
			caps.Index(c)
			caps.Enabler(c, 1)
			if !caps.Same(c, from) || !caps.Same(from, c) {
				t.Errorf("Same of %s, with %d bytes behind its Lit, is false", show(from), tail)
			}
			if !bytes.Equal(all, before) {
				t.Errorf("a call changes %s, or what is behind its Lit", show(from))
			}
			spoil(all)
			if s != want {
				t.Errorf("Print of %s follows its Lit", show(from))
			}
		}
	}
}

// What lies behind a Lit counts for nothing in Same.
func TestMemoryOfSame(t *testing.T) {
	a, b := []byte("liteals"), []byte("litable")
	if !caps.Same(api.Cap{Kind: api.Literal, Lit: a[:3]}, api.Cap{Kind: api.Literal, Lit: b[:3]}) {
		t.Error("Same tells apart what lies behind two Lits")
	}
}

// A text is not kept, and not changed.
func TestMemoryOfTexts(t *testing.T) {
	for _, of := range known() {
		b := []byte(of.text)
		s := unsafe.String(unsafe.SliceData(b), len(b))
		c, err := caps.Parse(s)
		other, _ := caps.Parse(s)
		if string(b) != of.text {
			t.Errorf("Parse of %q changes it", of.text)
		}
		spoil(b)
		isCap(t, "Parse of "+of.text+", spoilt", c, err, of.c, api.OK)
		spoil(other.Lit)
		isCap(t, "Parse of "+of.text+", another spoilt", c, err, of.c, api.OK)
	}
}

// Keys handed in are values: each answer stays as it is.
func TestMemoryOfKeys(t *testing.T) {
	seed, fp := keyOf(1), fpOf(1)
	slot := caps.Slot(seed, fp)
	before := slot
	key := caps.Renewal(seed, seed, 2)
	keyBefore := key
	seed[0]++
	fp[0]++
	caps.Slot(seed, fp)
	caps.Renewal(seed, seed, 2)
	caps.ReadOnly(slot)
	if !otherSame(slot, before) || key != keyBefore {
		t.Error("what was told follows what is asked later")
	}
}
