package caps_test

import (
	"fmt"
	"math"
	"testing"

	"aumbry/api"
	"aumbry/caps"
)

// P13.3

// servers are numbers of servers and the two bytes that they are hashed as.
var servers = []struct {
	server int
	bytes  string
}{
	{0, "\x00\x00"}, {1, "\x00\x01"}, {7, "\x00\x07"}, {255, "\x00\xff"}, {256, "\x01\x00"}, {257, "\x01\x01"},
	{65535, "\xff\xff"}, {65536, "\x00\x00"}, {65537, "\x00\x01"}, {math.MaxInt, "\xff\xff"},
	{-1, "\x00\x00"}, {-255, "\x00\x00"}, {-65535, "\x00\x00"}, {math.MinInt, "\x00\x00"},
}

func TestSlot(t *testing.T) {
	for n := range 20 {
		seed, fp := keyOf(n), fpOf(n)
		if n == 0 {
			seed = api.Key{}
		}
		if n == 1 {
			fp = api.Hash{}
		}
		c := caps.Slot(seed, fp)
		want := api.Cap{Kind: api.SlotWrite, Key: short("write", seed[:]), Fp: fp}
		isCap(t, fmt.Sprintf("Slot of %x", seed), c, api.OK, want, api.OK)
		if !caps.Valid(c) || !caps.CanRead(c) || !caps.CanWrite(c) {
			t.Errorf("Slot of %x = %s, which may not write", seed, show(c))
		}
		reads, err := caps.ReadOnly(c)
		isCap(t, "ReadOnly of a Slot", reads, err, api.Cap{Kind: api.SlotRead, Key: along(seed, "write", "read"), Fp: fp}, api.OK)
		index, err := caps.Index(c)
		isKey(t, "Index of a Slot", index, err, along(seed, "write", "read", "index"), api.OK)
	}
}

func TestDirOfEachKind(t *testing.T) {
	as := map[int]int{api.SlotWrite: api.DirWrite, api.SlotRead: api.DirRead, api.SlotVerify: api.DirVerify}
	for _, from := range allValid() {
		c, err := caps.Dir(from)
		kind, ok := as[from.Kind]
		if !ok {
			isCap(t, "Dir of "+show(from), c, err, api.Cap{}, api.ErrCap)
			continue
		}
		isCap(t, "Dir of "+show(from), c, err, api.Cap{Kind: kind, Key: from.Key, Fp: from.Fp}, api.OK)
		again, err := caps.Dir(c)
		isCap(t, "Dir of Dir of "+show(from), again, err, api.Cap{}, api.ErrCap)
	}
	for _, from := range allWrong() {
		c, err := caps.Dir(from)
		isCap(t, "Dir of "+show(from), c, err, api.Cap{}, api.ErrCap)
	}
}

// A directory's read and verify capabilities are those of its slot, as a directory's.
func TestDirFits(t *testing.T) {
	for n := range 10 {
		slot := caps.Slot(keyOf(n), fpOf(n))
		dir, err := caps.Dir(slot)
		if err != api.OK || !caps.CanWrite(dir) {
			t.Fatalf("Dir of %s = %s, %d", show(slot), show(dir), err)
		}
		for _, only := range []func(api.Cap) (api.Cap, api.Errno){caps.ReadOnly, caps.VerifyOnly} {
			ofSlot, _ := only(slot)
			want, err := caps.Dir(ofSlot)
			if err != api.OK {
				t.Fatalf("Dir of %s = %d", show(ofSlot), err)
			}
			got, err := only(dir)
			isCap(t, "what is only read or verified of "+show(dir), got, err, want, api.OK)
		}
		index, err := caps.Index(dir)
		want, _ := caps.Index(slot)
		isKey(t, "Index of "+show(dir), index, err, want, api.OK)
	}
}

func TestEnabler(t *testing.T) {
	for _, of := range servers {
		for _, c := range allValid() {
			what := fmt.Sprintf("Enabler of %s, server %d", show(c), of.server)
			key, err := caps.Enabler(c, of.server)
			if c.Kind == api.SlotWrite || c.Kind == api.DirWrite {
				isKey(t, what, key, err, short("enable", c.Key[:], []byte(of.bytes)), api.OK)
			} else {
				isKey(t, what, key, err, api.Key{}, api.ErrCap)
			}
		}
	}
	for _, c := range allWrong() {
		key, err := caps.Enabler(c, 1)
		isKey(t, "Enabler of "+show(c), key, err, api.Key{}, api.ErrCap)
	}
}

// What may only read or verify has no enabler, though it came of what may write.
func TestEnablerOfLess(t *testing.T) {
	for _, kind := range []int{api.SlotWrite, api.DirWrite} {
		for _, only := range []func(api.Cap) (api.Cap, api.Errno){caps.ReadOnly, caps.VerifyOnly} {
			c, _ := only(sample(kind))
			key, err := caps.Enabler(c, 0)
			isKey(t, "Enabler of "+show(c), key, err, api.Key{}, api.ErrCap)
		}
	}
}

// An enabler hangs on the key and the server alone: a slot's and its directory's are one.
func TestEnablerHangsOnTheKey(t *testing.T) {
	slot := sample(api.SlotWrite)
	want, _ := caps.Enabler(slot, 3)
	dir, _ := caps.Dir(slot)
	dir.Fp = fpOf(99)
	key, err := caps.Enabler(dir, 3)
	isKey(t, "Enabler of the slot as a directory", key, err, want, api.OK)
	seen := map[api.Key]bool{}
	for server := range 300 {
		key, _ := caps.Enabler(slot, server)
		seen[key] = true
	}
	if len(seen) != 300 {
		t.Errorf("300 servers have %d enablers", len(seen))
	}
}

func TestRenewal(t *testing.T) {
	for _, of := range servers {
		for n := range 5 {
			client, index := keyOf(n), keyOf(n+1)
			if n == 3 {
				client = api.Key{}
			}
			if n == 4 {
				index = api.Key{}
			}
			key := caps.Renewal(client, index, of.server)
			want := short("renew", client[:], index[:], []byte(of.bytes))
			isKey(t, fmt.Sprintf("Renewal of %x, %x, server %d", client, index, of.server), key, api.OK, want, api.OK)
		}
	}
	if caps.Renewal(keyOf(1), keyOf(2), 0) == caps.Renewal(keyOf(2), keyOf(1), 0) {
		t.Error("Renewal of a client and an index is that of the two turned about")
	}
}
