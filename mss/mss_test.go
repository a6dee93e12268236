package mss_test

import (
	"bytes"
	"crypto/sha256"
	"encoding/hex"
	"slices"
	"strconv"
	"testing"

	"aumbry/api"
	"aumbry/mss"
)

// P9.1: Leaves, Print

func TestLeaves(t *testing.T) {
	for _, seed := range seeds() {
		for height := range 5 {
			got := mss.Leaves(seed, height)
			if want := leavesOf(seed, 1<<height); !slices.Equal(got, want) {
				t.Errorf("Leaves(%x, %d) = %x, want %x", seed, height, got, want)
			}
		}
	}
}

func TestPrint(t *testing.T) {
	for _, seed := range seeds() {
		leaves := leavesOf(seed, 16)
		for height := range 5 {
			got, err := mss.Print(seed, height)
			if want := printOf(height, above(leaves, height, 0)); err != api.OK || got != want {
				t.Errorf("Print(%x, %d) = %x, %d, want %x", seed, height, got, err, want)
			}
		}
	}
}

func TestKnownPrints(t *testing.T) {
	for _, r := range []struct {
		seed   api.Key
		prints [5]string
	}{
		{api.Key{}, [5]string{
			"48a7b8436769ff07221a41d205ae158f4166dd9a52d62c8ac79b1e77895b2106",
			"0a81e6608d92286dbbea986359f3dd748d1215ce42b16aa83abf70b6371fd162",
			"bed120a40d20fce28f5b6bc4face0dcc4c3a0286ef815fcebd251ef90fb928ef",
			"43fc30cc9840e3c0dcb0711afc8d3c7be4cb20c6f63769f00bdfc3c74acfc8ec",
			"584640aa1d353993c1790271364a526f805e77bd5e94fc4c1a9c1743ab07e8cf",
		}},
		{rising(), [5]string{
			"79a5c4cc3db7b4adc7dac951c0db466f9a6cb6a9019d3dc7d604c2e91eefcdd3",
			"922c3f204191afe30ffe1b921c6076ce481b76451861a1a24b706b3b8f38b29a",
			"dc9b6147e424ddf0edc1353daf646775906313121674e9b01fa40112430084d4",
			"41700ff5aaa0030e3c37c0bcbbd0b269b8eb7ce12fcc1e9791fb016662d75659",
			"bfeb9009c52d47c63f7e2c4a78918df7ed2d15def0cb424f8b9d872cf9c59fe2",
		}},
	} {
		for height, want := range r.prints {
			if got, err := mss.Print(r.seed, height); err != api.OK || got != hashOf(t, want) {
				t.Errorf("Print(%x, %d) = %x, %d, want %s", r.seed, height, got, err, want)
			}
		}
	}
}

func TestNoHeight(t *testing.T) {
	for _, height := range noHeights() {
		if got := mss.Leaves(rising(), height); len(got) != 0 {
			t.Errorf("Leaves of height %d = %x, want none", height, got)
		}
		if got, err := mss.Print(rising(), height); err != api.ErrArg || got != (api.Hash{}) {
			t.Errorf("Print of height %d = %x, %d, want ErrArg alone", height, got, err)
		}
		for _, leaf := range append(leavesFar(), -1, 0, 1, 15, 16, height, height-1) {
			holdNoSig(t, rising(), height, leaf)
		}
	}
}

// P9.1: Sign

// holdSig holds each part of a signature.
func holdSig(t *testing.T, seed api.Key, leaves []api.Hash, height, leaf int, m []byte) {
	t.Helper()
	name := "Sign(" + hex.EncodeToString(seed[:]) + ", " + strconv.Itoa(height) + ", " + strconv.Itoa(leaf) + ", " + strconv.Itoa(len(m)) + " bytes)"
	got, err := mss.Sign(seed, height, leaf, m)
	if err != api.OK || got.Height != height || got.Leaf != leaf {
		t.Errorf("%s: height %d, leaf %d, error %d", name, got.Height, got.Leaf, err)
	}
	if want := valuesOf(seed, leaf, digitsOf(m)); !slices.Equal(got.Values, want) {
		t.Errorf("%s: values %x, want %x", name, got.Values, want)
	}
	if want := beside(leaves, height, leaf); !slices.Equal(got.Proof, want) {
		t.Errorf("%s: proof %x, want %x", name, got.Proof, want)
	}
	if !mss.Verify(printOf(height, above(leaves, height, 0)), m, got) {
		t.Errorf("%s: it is not verified", name)
	}
}

// holdNoSig holds the error, with nothing beside it.
func holdNoSig(t *testing.T, seed api.Key, height, leaf int) {
	t.Helper()
	for _, m := range [][]byte{nil, []byte("message")} {
		if got, err := mss.Sign(seed, height, leaf, m); err != api.ErrArg || !isNone(got) {
			t.Errorf("Sign(%x, %d, %d, %q) = %v, %d, want ErrArg alone", seed, height, leaf, m, got, err)
		}
	}
}

func TestSignWithEveryLeaf(t *testing.T) {
	for _, seed := range seeds()[:3] {
		leaves := leavesOf(seed, 16)
		for height := range 5 {
			for leaf := range 1 << height {
				holdSig(t, seed, leaves, height, leaf, []byte("message of leaf "+strconv.Itoa(leaf)))
			}
		}
	}
}

func TestSignEveryMessage(t *testing.T) {
	leaves := leavesOf(rising(), 16)
	for _, m := range messages() {
		holdSig(t, rising(), leaves, 0, 0, m)
		holdSig(t, rising(), leaves, 2, 2, m)
	}
}

func TestSignWithNoLeaf(t *testing.T) {
	for height := range 5 {
		holdNoSig(t, rising(), height, -1)
		holdNoSig(t, rising(), height, -1<<height)
		holdNoSig(t, rising(), height, 1<<height)
		holdNoSig(t, rising(), height, 1<<height+1)
		holdNoSig(t, rising(), height, 2<<height)
	}
	for _, leaf := range leavesFar() {
		holdNoSig(t, rising(), 0, leaf)
		holdNoSig(t, rising(), 4, leaf)
	}
}

func TestKnownSigs(t *testing.T) {
	for _, r := range []struct {
		seed         api.Key
		height, leaf int
		m            string
		bytes        int
		want         string
	}{
		{api.Key{}, 0, 0, "", 2147, "55d8ad83e8529bca682aa5f3b44c4ad7252fec352e3efef13a165dc9d29ddc17"},
		{rising(), 4, 11, "abc", 2275, "fdb00b18689d761a53b7b7c5ed62598f4e58d4993e378aa005e33b7084749735"},
		{rising(), 3, 5, "message", 2243, "d7eda869acba07f9664a531e0860f608d967066dccf04bde230c11a882827017"},
	} {
		s, err := mss.Sign(r.seed, r.height, r.leaf, []byte(r.m))
		b := mss.Pack(s)
		if hash := sha256.Sum256(b); err != api.OK || len(b) != r.bytes || hash != hashOf(t, r.want) {
			t.Errorf("Pack of Sign(%x, %d, %d, %q): %d bytes, %d, of hash %x, want %s", r.seed, r.height, r.leaf, r.m, len(b), err, hash, r.want)
		}
	}
}

// P9.2: Pack

// holdPack holds a signature's bytes.
func holdPack(t *testing.T, s api.Sig) []byte {
	t.Helper()
	got := mss.Pack(s)
	if want := packed(s); !bytes.Equal(got, want) {
		t.Errorf("Pack of height %d, leaf %d, %d values, a proof of %d = %x, want %x", s.Height, s.Leaf, len(s.Values), len(s.Proof), got, want)
	}
	return got
}

func TestPackOfSigs(t *testing.T) {
	for height := range 5 {
		for leaf := range 1 << height {
			s, _ := mss.Sign(rising(), height, leaf, []byte("message"))
			holdPack(t, s)
		}
	}
}

func TestPackOfAnySig(t *testing.T) {
	for _, height := range []int{0, 1, 4, 5, 127, 128, 255} {
		for _, leaf := range []int{0, 1, 15, 16, 255, 256, 257, 0x0102, 0x0201, 1<<15 - 1, 1 << 15, 1<<16 - 1} {
			for _, values := range []int{0, 1, 2, 66, 67, 68, 200} {
				for _, proof := range []int{0, 1, 2, 4, 5, 67} {
					holdPack(t, api.Sig{Height: height, Leaf: leaf, Values: row(values, height), Proof: row(proof, leaf)})
				}
			}
		}
	}
	if got := mss.Pack(api.Sig{}); !bytes.Equal(got, []byte{0, 0, 0}) {
		t.Errorf("Pack of nothing = %x", got)
	}
}

// What does not fit is cut off, and what is below 0 is 0.
func TestPackOfWhatDoesNotFit(t *testing.T) {
	l := row(2, 2)
	for _, r := range []struct {
		n         int
		one       byte
		high, low byte
	}{
		{-1, 0, 0, 0}, {-256, 0, 0, 0}, {-1<<63 + 1, 0, 0, 0}, {-1 << 63, 0, 0, 0},
		{256, 0, 1, 0}, {257, 1, 1, 1}, {1<<16 - 1, 255, 255, 255}, {1 << 16, 0, 0, 0}, {1<<16 + 0x0304, 4, 3, 4},
		{1 << 32, 0, 0, 0}, {1<<40 + 513, 1, 2, 1}, {1<<63 - 1, 255, 255, 255},
	} {
		want := append([]byte{r.one, r.high, r.low}, raw(l[0])+raw(l[1])...)
		if got := mss.Pack(api.Sig{Height: r.n, Leaf: r.n, Values: l[:1], Proof: l[1:]}); !bytes.Equal(got, want) {
			t.Errorf("Pack of height and leaf %d = %x, want %x", r.n, got, want)
		}
	}
}

// P9.2: Unpack

// holdUnpack holds a signature that bytes are.
func holdUnpack(t *testing.T, s api.Sig) {
	t.Helper()
	got, ok := mss.Unpack(packed(s))
	if !ok || !same(got, s) {
		t.Errorf("Unpack of height %d, leaf %d = %v, %v, want %v", s.Height, s.Leaf, got, ok, s)
	}
	if b := mss.Pack(got); !bytes.Equal(b, packed(s)) {
		t.Errorf("Pack of Unpack of %x = %x", packed(s), b)
	}
}

// holdNoUnpack holds false, with nothing beside it.
func holdNoUnpack(t *testing.T, why string, b []byte) {
	t.Helper()
	if got, ok := mss.Unpack(b); ok || !isNone(got) {
		t.Errorf("%s: Unpack of %d bytes, %x.. = %v, %v, want false alone", why, len(b), b[:min(3, len(b))], got, ok)
	}
}

func TestUnpack(t *testing.T) {
	for height := range 5 {
		for leaf := range 1 << height {
			s, _ := mss.Sign(rising(), height, leaf, []byte("message"))
			if got, ok := mss.Unpack(mss.Pack(s)); !ok || !same(got, s) {
				t.Errorf("Unpack of Pack of height %d, leaf %d = %v, %v", height, leaf, got, ok)
			}
		}
		// A leaf's number stands by itself: also one that no tree has is told.
		for _, leaf := range []int{0, 1, 15, 16, 17, 255, 256, 257, 0x0102, 0x0201, 1 << 15, 1<<16 - 1} {
			holdUnpack(t, api.Sig{Height: height, Leaf: leaf, Values: row(67, leaf), Proof: row(height, -leaf)})
		}
		holdUnpack(t, api.Sig{Height: height, Values: make([]api.Hash, 67), Proof: make([]api.Hash, height)})
	}
}

func TestUnpackOfEveryLength(t *testing.T) {
	for height := range 5 {
		whole := packed(api.Sig{Height: height, Leaf: 1, Values: row(67, 1), Proof: row(height, 2)})
		for n := range whole {
			holdNoUnpack(t, "a beginning", whole[:n])
			holdNoUnpack(t, "an end", whole[len(whole)-n:])
		}
		for _, more := range []int{1, 2, 3, 31, 32, 33, 64, 96, 128, 256, 67 * 32, 1 << 16} {
			holdNoUnpack(t, "more than it", slices.Concat(whole, make([]byte, more)))
			holdNoUnpack(t, "it behind others", slices.Concat(make([]byte, more), whole))
		}
	}
	holdNoUnpack(t, "nothing", nil)
	holdNoUnpack(t, "no bytes", []byte{})
}

// For every height that a byte can be there are bytes as long as those of any height.
func TestUnpackOfEveryHeight(t *testing.T) {
	for height := range 256 {
		for proof := range 10 {
			if s := (api.Sig{Height: height, Leaf: 3, Values: row(67, 1), Proof: row(proof, 2)}); height <= 4 && proof == height {
				holdUnpack(t, s)
			} else {
				holdNoUnpack(t, "another height", packed(s))
			}
		}
		if height > 4 {
			holdNoUnpack(t, "no such height", packed(api.Sig{Height: height, Leaf: 3, Values: row(67, 1), Proof: row(height, 2)}))
		}
	}
}

// Other numbers of values, whatever the whole length.
func TestUnpackOfOtherNumbers(t *testing.T) {
	for height := range 5 {
		for values := range 140 {
			for _, proof := range []int{0, height, 4} {
				if values+proof != 67+height {
					holdNoUnpack(t, "other numbers", packed(api.Sig{Height: height, Values: row(values, 1), Proof: row(proof, 2)}))
				}
			}
		}
	}
}
