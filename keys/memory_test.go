package keys_test

import (
	"bytes"
	"fmt"
	"testing"
	"unsafe"

	"aumbry/api"
	"aumbry/keys"
)

// spoil overwrites a list of hashes, and what lies behind its length in its memory.
func spoil(l []api.Hash) {
	l = l[:cap(l)]
	for i := range l {
		l[i] = api.Hash{'#', '#'}
	}
}

// named is a name of bytes that can be overwritten, and these.
func named(name string) (string, []byte) {
	b := []byte(name)
	return unsafe.String(unsafe.SliceData(b), len(b)), b
}

// R4: a message is neither changed nor kept; what lies behind its length is neither read nor written.
func TestMemoryOfMessages(t *testing.T) {
	for _, length := range []int{0, 1, 31, 32, 64, 300} {
		for _, tail := range []string{"", "tail", letters(500)} {
			what := fmt.Sprintf("a message of %d bytes, %d behind it", length, len(tail))
			_, s := newStore(t, 3, 2)
			k := openKeys(t, s, "k", seeded(30), 1)
			all := []byte("ahead" + letters(length) + tail)
			before := bytes.Clone(all)
			m := all[5 : 5+length]
			sig, err := k.Sign(m)
			if err != api.OK || !same(sig, signature(seeded(30), 1, 0, []byte(letters(length)))) {
				t.Errorf("%s: Sign = %d, of another message", what, err)
			}
			if !bytes.Equal(all, before) {
				t.Errorf("%s: Sign changes what was handed in: %q", what, all)
			}
			for i := range all {
				all[i] = '#'
			}
			if !same(sig, signature(seeded(30), 1, 0, []byte(letters(length)))) {
				t.Errorf("%s: the signature follows the message", what)
			}
			has(t, what, s, "k", four(1))
			signs(t, what+", spoilt", k, seeded(30), 1, 1, "m")
			if _, err := k.Sign(m); err != api.ErrExpired || !bytes.Equal(all, bytes.Repeat([]byte("#"), len(all))) {
				t.Errorf("%s: a Sign that is refused = %d, what was handed in is %q", what, err, all)
			}
		}
	}
}

// A name is not changed and not kept.
func TestMemoryOfNames(t *testing.T) {
	_, s := newStore(t, 4, 2)
	name, under := named("name")
	k, err := keys.Open(s, name, seeded(31), 2)
	if err != api.OK || string(under) != "name" {
		t.Fatalf("Open = %d, of %q", err, under)
	}
	copy(under, "####")
	signs(t, "a spoilt name", k, seeded(31), 2, 0, "m")
	has(t, "a spoilt name", s, "name", four(1))
	lacks(t, "a spoilt name", s, "####")
	puts(t, s, "name", four(2))
	left(t, "a spoilt name", k, 2)
	puts(t, s, "####", four(4))
	left(t, "a spoilt name", k, 2)
	for i := range under {
		under[i] = 'n'
	}
	signs(t, "a name spoilt again", k, seeded(31), 2, 2, "m")
	has(t, "a name spoilt again", s, "name", four(3))
}

// A seed is a value: what is done to the caller's is not done to the keystore's.
func TestMemoryOfSeeds(t *testing.T) {
	_, s := newStore(t, 4, 2)
	seed := seeded(32)
	k := openKeys(t, s, "k", seed, 1)
	seed[0]++
	signs(t, "another seed", k, seeded(32), 1, 0, "m")
	if k.Print() != printed(seeded(32), 1) {
		t.Error("Print follows the caller's seed")
	}
}

// R4: each signature is new memory, shared with no other one's and not with the keystore.
func TestMemoryOfSignatures(t *testing.T) {
	_, s := newStore(t, 3, 2)
	k, beside := openKeys(t, s, "k", seeded(33), 2), openKeys(t, s, "beside", seeded(33), 2)
	message := []byte("m")
	var before []api.Sig
	for leaf := range 4 {
		one, err := k.Sign(message)
		two, err2 := beside.Sign(message)
		want := signature(seeded(33), 2, leaf, message)
		if err != api.OK || err2 != api.OK || !same(one, want) || !same(two, want) {
			t.Fatalf("leaf %d: Sign = %d, %d, or another signature", leaf, err, err2)
		}
		spoil(one.Values)
		if !same(api.Sig{Height: one.Height, Leaf: one.Leaf, Values: want.Values, Proof: one.Proof}, want) {
			t.Errorf("leaf %d: a signature's two lists share memory", leaf)
		}
		spoil(one.Proof)
		if !same(two, want) {
			t.Errorf("leaf %d: a spoilt signature spoils another one", leaf)
		}
		before = append(before, two)
		for elder, sig := range before {
			if !same(sig, signature(seeded(33), 2, elder, message)) {
				t.Errorf("leaf %d: what was handed back for leaf %d has changed", leaf, elder)
			}
		}
		left(t, "a spoilt signature", k, 3-leaf)
		has(t, "a spoilt signature", s, "k", four(leaf+1))
		if k.Print() != printed(seeded(33), 2) || string(message) != "m" {
			t.Errorf("leaf %d: a spoilt signature spoils the Print or the message", leaf)
		}
	}
}

// The store is used as it is: what somebody else's calls told ahead of a Sign stays as it was.
func TestMemoryOfTheStore(t *testing.T) {
	_, s := newStore(t, 3, 2)
	k := openKeys(t, s, "k", seeded(34), 1)
	signs(t, "ahead", k, seeded(34), 1, 0, "m")
	b, _ := s.Get("k")
	signs(t, "behind", k, seeded(34), 1, 1, "m")
	if string(b) != four(1) {
		t.Errorf("what the store told has become %q", b)
	}
	b, _ = s.Get("k")
	b[3] = 0
	left(t, "what the store told is spoilt", k, 0)
	has(t, "what the store told is spoilt", s, "k", four(2))
}
