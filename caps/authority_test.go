package caps_test

import (
	"testing"

	"aumbry/api"
	"aumbry/caps"
)

// P13.2

// What each kind's sample may do, field by field.
func TestAuthorityOfSamples(t *testing.T) {
	file, slot, dir := sample(api.FileRead), sample(api.SlotWrite), sample(api.DirWrite)
	reads, looks := sample(api.SlotRead), sample(api.DirRead)
	for _, of := range []struct {
		c            api.Cap
		read, verify api.Cap
	}{
		{
			file,
			file,
			api.Cap{Kind: api.FileVerify, Key: short("index", file.Key[:]), Fp: file.Fp, K: 3, N: 10, Size: 777},
		},
		{
			slot,
			api.Cap{Kind: api.SlotRead, Key: short("read", slot.Key[:]), Fp: slot.Fp},
			api.Cap{Kind: api.SlotVerify, Key: along(slot.Key, "read", "index"), Fp: slot.Fp},
		},
		{
			reads,
			reads,
			api.Cap{Kind: api.SlotVerify, Key: short("index", reads.Key[:]), Fp: reads.Fp},
		},
		{
			dir,
			api.Cap{Kind: api.DirRead, Key: short("read", dir.Key[:]), Fp: dir.Fp},
			api.Cap{Kind: api.DirVerify, Key: along(dir.Key, "read", "index"), Fp: dir.Fp},
		},
		{
			looks,
			looks,
			api.Cap{Kind: api.DirVerify, Key: short("index", looks.Key[:]), Fp: looks.Fp},
		},
	} {
		c, err := caps.ReadOnly(of.c)
		isCap(t, "ReadOnly of "+show(of.c), c, err, of.read, api.OK)
		c, err = caps.VerifyOnly(of.c)
		isCap(t, "VerifyOnly of "+show(of.c), c, err, of.verify, api.OK)
		index, err := caps.Index(of.c)
		isKey(t, "Index of "+show(of.c), index, err, of.verify.Key, api.OK)
	}
}

// A Literal is read, and nobody verifies it: it has no index.
func TestAuthorityOfLiterals(t *testing.T) {
	for _, lit := range valid(api.Literal) {
		c, err := caps.ReadOnly(lit)
		isCap(t, "ReadOnly of "+show(lit), c, err, lit, api.OK)
		c, err = caps.VerifyOnly(lit)
		isCap(t, "VerifyOnly of "+show(lit), c, err, api.Cap{}, api.ErrCap)
		index, err := caps.Index(lit)
		isKey(t, "Index of "+show(lit), index, err, api.Key{}, api.ErrCap)
	}
}

// What may only verify is not read: its key is the index.
func TestAuthorityOfVerifiers(t *testing.T) {
	for _, kind := range []int{api.FileVerify, api.SlotVerify, api.DirVerify} {
		for _, v := range valid(kind) {
			c, err := caps.ReadOnly(v)
			isCap(t, "ReadOnly of "+show(v), c, err, api.Cap{}, api.ErrCap)
			c, err = caps.VerifyOnly(v)
			isCap(t, "VerifyOnly of "+show(v), c, err, v, api.OK)
			index, err := caps.Index(v)
			isKey(t, "Index of "+show(v), index, err, v.Key, api.OK)
		}
	}
}

func TestCanReadAndWrite(t *testing.T) {
	may := map[int][2]bool{
		api.FileRead: {true, false}, api.FileVerify: {false, false}, api.Literal: {true, false},
		api.SlotWrite: {true, true}, api.SlotRead: {true, false}, api.SlotVerify: {false, false},
		api.DirWrite: {true, true}, api.DirRead: {true, false}, api.DirVerify: {false, false},
	}
	for _, c := range allValid() {
		if got := [2]bool{caps.CanRead(c), caps.CanWrite(c)}; got != may[c.Kind] {
			t.Errorf("CanRead and CanWrite of %s = %v", show(c), got)
		}
	}
	for _, c := range allWrong() {
		if caps.CanRead(c) || caps.CanWrite(c) {
			t.Errorf("CanRead and CanWrite of %s = %v, %v", show(c), caps.CanRead(c), caps.CanWrite(c))
		}
	}
}

// All Valid capabilities against the other maker.
func TestAuthorityOfValid(t *testing.T) {
	for _, from := range allValid() {
		c, err := caps.ReadOnly(from)
		want, wantErr := otherReadOnly(from)
		isCap(t, "ReadOnly of "+show(from), c, err, want, wantErr)
		c, err = caps.VerifyOnly(from)
		want, wantErr = otherVerifyOnly(from)
		isCap(t, "VerifyOnly of "+show(from), c, err, want, wantErr)
		index, err := caps.Index(from)
		wantKey, wantErr := otherIndex(from)
		isKey(t, "Index of "+show(from), index, err, wantKey, wantErr)
	}
}

// Beside ErrCap there is nothing.
func TestAuthorityOfWrong(t *testing.T) {
	for _, from := range allWrong() {
		c, err := caps.ReadOnly(from)
		isCap(t, "ReadOnly of "+show(from), c, err, api.Cap{}, api.ErrCap)
		c, err = caps.VerifyOnly(from)
		isCap(t, "VerifyOnly of "+show(from), c, err, api.Cap{}, api.ErrCap)
		index, err := caps.Index(from)
		isKey(t, "Index of "+show(from), index, err, api.Key{}, api.ErrCap)
	}
}

// ReadOnly, VerifyOnly and Index of one capability fit together, whichever is asked first.
func TestAuthoritiesFit(t *testing.T) {
	for _, from := range allValid() {
		if !caps.CanRead(from) || from.Kind == api.Literal {
			continue
		}
		what := show(from)
		reads, err := caps.ReadOnly(from)
		if err != api.OK || !caps.Valid(reads) || !caps.CanRead(reads) || caps.CanWrite(reads) {
			t.Fatalf("ReadOnly of %s = %s, %d", what, show(reads), err)
		}
		again, err := caps.ReadOnly(reads)
		isCap(t, "ReadOnly of ReadOnly of "+what, again, err, reads, api.OK)

		verifies, err := caps.VerifyOnly(from)
		if err != api.OK || !caps.Valid(verifies) || caps.CanRead(verifies) || caps.CanWrite(verifies) {
			t.Fatalf("VerifyOnly of %s = %s, %d", what, show(verifies), err)
		}
		again, err = caps.VerifyOnly(reads)
		isCap(t, "VerifyOnly of ReadOnly of "+what, again, err, verifies, api.OK)
		again, err = caps.VerifyOnly(verifies)
		isCap(t, "VerifyOnly of VerifyOnly of "+what, again, err, verifies, api.OK)
		again, err = caps.ReadOnly(verifies)
		isCap(t, "ReadOnly of VerifyOnly of "+what, again, err, api.Cap{}, api.ErrCap)

		for _, c := range []api.Cap{from, reads, verifies} {
			index, err := caps.Index(c)
			isKey(t, "Index of "+show(c), index, err, verifies.Key, api.OK)
			if c.Fp != from.Fp || c.K != from.K || c.N != from.N || c.Size != from.Size {
				t.Errorf("of %s comes %s", what, show(c))
			}
		}
	}
}

// No two kinds of one key are stored at one place, but those that make one another.
func TestIndexesAreUnlike(t *testing.T) {
	key := keyOf(7)
	seen := map[api.Key]string{}
	for _, of := range []struct {
		kind int
		name string
	}{
		{api.FileRead, "index"}, {api.SlotRead, "index"}, {api.DirRead, "index"},
		{api.SlotWrite, "read, index"}, {api.DirWrite, "read, index"},
		{api.FileVerify, "none"}, {api.SlotVerify, "none"}, {api.DirVerify, "none"},
	} {
		c := sample(of.kind)
		c.Key = key
		index, err := caps.Index(c)
		if err != api.OK {
			t.Fatalf("Index of %s = %d", show(c), err)
		}
		if name, ok := seen[index]; ok && name != of.name {
			t.Errorf("Index of %s is that of a key by %s", show(c), name)
		}
		seen[index] = of.name
	}
	if len(seen) != 3 {
		t.Errorf("there are %d indexes of one key", len(seen))
	}
}
