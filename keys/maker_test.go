package keys_test

import (
	"bytes"
	"fmt"
	"math/big"
	"slices"
	"strings"
	"testing"

	"aumbry/api"
	"aumbry/code"
	"aumbry/disk"
	"aumbry/keys"
	"aumbry/mss"
	"aumbry/sha"
	"aumbry/store"
	"aumbry/tree"
	"aumbry/wots"
)

// maker is another maker of a keystore's answers: it keeps no number, but marks each leaf of which it hears that it is used.
type maker struct {
	store  *store.Store
	name   string
	seed   api.Key
	height int
	used   []bool
}

// makerOf is the other maker of keystores; nil: there is none.
func makerOf(s *store.Store, name string, seed api.Key, height int) *maker {
	if height != min(max(height, 0), 4) {
		return nil
	}
	m := &maker{store: s, name: name, seed: seed, height: height, used: make([]bool, []int{1, 2, 4, 8, 16}[height])}
	m.hear()
	return m
}

// hear marks the leaves that the store counts as used.
func (m *maker) hear() {
	b, ok := m.store.Get(m.name)
	if !ok || len(b) >= 8 {
		return
	}
	number := new(big.Int).SetBytes(b)
	for leaf := range m.used {
		if number.Cmp(big.NewInt(int64(leaf))) > 0 {
			m.used[leaf] = true
		}
	}
}

func (m *maker) left() int {
	m.hear()
	n := 0
	for _, used := range m.used {
		if !used {
			n++
		}
	}
	return n
}

func (m *maker) sign(message []byte) (api.Sig, api.Errno) {
	m.hear()
	leaf := slices.Index(m.used, false)
	if leaf < 0 {
		return api.Sig{}, api.ErrExpired
	}
	if err := m.store.Put(m.name, []byte{0, 0, 0, byte(leaf + 1)}); err != api.OK {
		return api.Sig{}, err
	}
	m.used[leaf] = true
	return signature(m.seed, m.height, leaf, message), api.OK
}

// place is a leaf of a seed.
type place struct {
	seed api.Key
	leaf int
}

// known are the publics that were worked out already.
var known = map[place]api.Hash{}

// publics are what the leaves of a tree are known by.
func publics(seed api.Key, height int) []api.Hash {
	l := make([]api.Hash, 1<<height)
	for leaf := range l {
		at := place{seed, leaf}
		if _, ok := known[at]; !ok {
			known[at] = wots.Public(seed, leaf)
		}
		l[leaf] = known[at]
	}
	return l
}

// signature is a leaf's, made of the layers below package mss.
func signature(seed api.Key, height, leaf int, message []byte) api.Sig {
	proof, err := tree.Proof(leaf, publics(seed, height)...)
	if err != api.OK {
		panic(err)
	}
	return api.Sig{Height: height, Leaf: leaf, Values: wots.Sign(seed, leaf, message), Proof: proof}
}

// printed is a tree's print, made likewise.
func printed(seed api.Key, height int) api.Hash {
	root := tree.Root(publics(seed, height)...)
	return sha.Tagged("print", []byte{byte(height)}, root[:])
}

// same tells whether two signatures are one.
func same(a, b api.Sig) bool {
	return a.Height == b.Height && a.Leaf == b.Leaf && slices.Equal(a.Values, b.Values) && slices.Equal(a.Proof, b.Proof)
}

// isNone tells whether a signature is the zero value.
func isNone(s api.Sig) bool {
	return s.Height == 0 && s.Leaf == 0 && len(s.Values) == 0 && len(s.Proof) == 0
}

// four is a number as four bytes.
func four(n int) string {
	return string([]byte{byte(n >> 24), byte(n >> 16), byte(n >> 8), byte(n)})
}

// letters are n bytes, none of them like the next one.
func letters(n int) string {
	var b strings.Builder
	for i := range n {
		b.WriteByte(byte('a' + (i*7+i/26)%26))
	}
	return b.String()
}

// seeded is a seed.
func seeded(n int) api.Key {
	return api.Key{byte(n), 1, 2, byte(n * 7), 15: byte(n >> 8)}
}

// newStore is a disk, and a store on it that has nothing.
func newStore(t testing.TB, slots, room int) (*disk.Disk, *store.Store) {
	t.Helper()
	d, err := disk.New(slots * (room + 1))
	if err != api.OK {
		t.Fatalf("disk.New = %d", err)
	}
	return d, openStore(t, d, slots, room)
}

// openStore is a store that opens well.
func openStore(t testing.TB, d *disk.Disk, slots, room int) *store.Store {
	t.Helper()
	s, err := store.Open(d, slots, room)
	if err != api.OK {
		t.Fatalf("store.Open = %d", err)
	}
	return s
}

// puts is a Put, by somebody else, that ends well.
func puts(t testing.TB, s *store.Store, name, data string) {
	t.Helper()
	if err := s.Put(name, []byte(data)); err != api.OK {
		t.Fatalf("store.Put(%.60q, %.60q) = %d", name, data, err)
	}
}

// drops is a Drop, by somebody else, that ends well.
func drops(t testing.TB, s *store.Store, name string) {
	t.Helper()
	if err := s.Drop(name); err != api.OK {
		t.Fatalf("store.Drop(%.60q) = %d", name, err)
	}
}

// openKeys is a keystore that opens well.
func openKeys(t testing.TB, s *store.Store, name string, seed api.Key, height int) *keys.Keys {
	t.Helper()
	k, err := keys.Open(s, name, seed, height)
	if err != api.OK || k == nil {
		t.Fatalf("Open(%.60q, height %d) = %v, %d, want a keystore", name, height, k, err)
	}
	return k
}

// left holds how many leaves a keystore has left.
func left(t testing.TB, what string, k *keys.Keys, want int) {
	t.Helper()
	if got := k.Left(); got != want {
		t.Errorf("%s: Left = %d, want %d", what, got, want)
	}
}

// signs holds a Sign that ends well: which leaf of which tree signs, and that all but this message is none of it.
func signs(t testing.TB, what string, k *keys.Keys, seed api.Key, height, leaf int, message string) api.Sig {
	t.Helper()
	s, err := k.Sign([]byte(message))
	if err != api.OK {
		t.Fatalf("%s: Sign(%.60q) = %d, want leaf %d", what, message, err, leaf)
	}
	if want := signature(seed, height, leaf, []byte(message)); !same(s, want) {
		t.Errorf("%s: Sign(%.60q) is of leaf %d of height %d, want just leaf %d of height %d", what, message, s.Leaf, s.Height, leaf, height)
	}
	if fp := printed(seed, height); !mss.Verify(fp, []byte(message), s) || mss.Verify(fp, []byte(message+"x"), s) {
		t.Errorf("%s: Sign(%.60q) is no signature of just that", what, message)
	}
	return s
}

// refuses holds a Sign that answers an error, and nothing beside.
func refuses(t testing.TB, what string, k *keys.Keys, message string, want api.Errno) {
	t.Helper()
	if s, err := k.Sign([]byte(message)); err != want || !isNone(s) {
		t.Errorf("%s: Sign(%.60q) = %v, %d, want %d", what, message, s, err, want)
	}
}

// has holds what the store has for a name.
func has(t testing.TB, what string, s *store.Store, name, want string) {
	t.Helper()
	if b, ok := s.Get(name); !ok || string(b) != want {
		t.Errorf("%s: the store has %q, %t for %.60q, want %q", what, b, ok, name, want)
	}
}

// lacks holds that the store has nothing for a name.
func lacks(t testing.TB, what string, s *store.Store, name string) {
	t.Helper()
	if b, ok := s.Get(name); ok {
		t.Errorf("%s: the store has %q for %.60q, want nothing", what, b, name)
	}
}

// image is all that stands on a disk, dead or not.
func image(d *disk.Disk) string {
	c := d.Clone()
	c.Start()
	var all bytes.Buffer
	for i := range c.Len() {
		b, _ := c.Read(i)
		all.Write(b)
	}
	return all.String()
}

// alike holds two disks against each other.
func alike(t testing.TB, what string, got, want *disk.Disk) {
	t.Helper()
	if got.Dead() != want.Dead() || got.Writes() != want.Writes() {
		t.Errorf("%s: the disk's Dead, Writes = %t, %d, want %t, %d", what, got.Dead(), got.Writes(), want.Dead(), want.Writes())
	}
	g, w := image(got), image(want)
	for i := 0; i < len(w); i += api.Sector {
		if g[i:i+api.Sector] != w[i:i+api.Sector] {
			t.Errorf("%s: sector %d is %q, want %q", what, i/api.Sector, g[i:i+api.Sector], w[i:i+api.Sector])
		}
	}
}

// recordWrites is how many sectors a Put takes: those of the record, its state, and that of the elder one.
func recordWrites(name string, elder bool) int {
	record := code.Nets([]byte(name), code.Put(1, 4), code.Put(1, 4))
	n := (len(record)+api.Sector-1)/api.Sector + 1
	if elder {
		n++
	}
	return n
}

// nth is a message.
func nth(n int) string {
	return fmt.Sprintf("message %d", n)
}
