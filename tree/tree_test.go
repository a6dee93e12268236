package tree_test

import (
	"bytes"
	"crypto/sha256"
	"encoding/hex"
	"math"
	"slices"
	"strconv"
	"strings"
	"testing"

	"aumbry/api"
	"aumbry/tree"
)

// tagged is another maker of a tagged hash.
func tagged(tag string, rows ...string) api.Hash {
	var text strings.Builder
	for _, row := range append([]string{tag}, rows...) {
		text.WriteString(strconv.Itoa(len(row)) + ":" + row + ",")
	}
	return sha256.Sum256([]byte(text.String()))
}

// node is another maker of Node.
func node(a, b api.Hash) api.Hash { return tagged("node", string(a[:]), string(b[:])) }

// wide is how many places a tree of n leaves has.
func wide(n int) int {
	places := 1
	for places < n {
		places += places
	}
	return places
}

// halved is the root of so many places, from above: in the first ones stand leaves, in all others none.
func halved(l []api.Hash, places int) api.Hash {
	if places == 1 {
		return append(slices.Clone(l), tagged("pad"))[0]
	}
	left, right := parted(l, places/2)
	return node(halved(left, places/2), halved(right, places/2))
}

// parted is the leaves that stand in the first places, and the others.
func parted(l []api.Hash, places int) (left, right []api.Hash) {
	cut := min(places, len(l))
	return l[:cut], l[cut:]
}

// beside is the proof of the leaf in place i, from below, made from above.
func beside(i int, l []api.Hash, places int) []api.Hash {
	if places == 1 {
		return nil
	}
	half := places / 2
	left, right := parted(l, half)
	if i < half {
		return append(beside(i, left, half), halved(right, half))
	}
	return append(beside(i-half, right, half), halved(left, half))
}

// climbed is the root that a leaf in place i makes, made from above.
func climbed(i int, leaf api.Hash, proof []api.Hash) api.Hash {
	if len(proof) == 0 {
		return leaf
	}
	below, last := proof[:len(proof)-1], proof[len(proof)-1]
	if half := 1 << len(below); i >= half {
		return node(last, climbed(i-half, leaf, below))
	}
	return node(climbed(i, leaf, below), last)
}

// row is n unlike hashes, others for another seed.
func row(n, seed int) []api.Hash {
	l := make([]api.Hash, n)
	for i := range l {
		l[i] = sha256.Sum256([]byte(strconv.Itoa(seed) + " " + strconv.Itoa(i)))
	}
	return l
}

// mixed is n bytes far from any rule.
func mixed(n int) []byte {
	b := make([]byte, n)
	for i := range b {
		b[i] = byte(i*i*31 + i*7 + i>>8 + 3)
	}
	return b
}

// hashOf reads a hash's 64 digits.
func hashOf(t *testing.T, digits string) api.Hash {
	t.Helper()
	b, err := hex.DecodeString(digits)
	if err != nil || len(b) != len(api.Hash{}) {
		t.Fatal("no hash:", digits)
	}
	return api.Hash(b)
}

// turned is a hash with one byte turned.
func turned(h api.Hash, at int) api.Hash {
	h[at] ^= 0x40
	return h
}

// counts are numbers of leaves: all small ones, and those about the greater powers of 2.
func counts(most int) []int {
	var all []int
	for n := range 21 {
		all = append(all, n)
	}
	for power := 32; power <= 1024; power *= 2 {
		all = append(all, power-1, power, power+1)
	}
	return slices.DeleteFunc(all, func(n int) bool { return n > most })
}

// placesOf are places of n leaves: of few all, of many some, the first and the last ones among them.
func placesOf(n int) []int {
	var all []int
	for i := range n {
		if n <= 65 || i < 3 || i >= n-3 || i%29 == 0 || i == n/2 || i == n/2-1 {
			all = append(all, i)
		}
	}
	return all
}

// far are numbers far from all places.
func far() []int {
	return []int{math.MinInt, math.MinInt + 1, math.MinInt32, -1 << 32, -1 << 16, -256, 1 << 16, 1 << 31, 1 << 32, 1<<32 + 1, 1 << 62, math.MaxInt - 1, math.MaxInt}
}

// P7.1

func TestKnown(t *testing.T) {
	a, b, c := tree.Leaf([]byte("a")), tree.Leaf([]byte("b")), tree.Leaf([]byte("c"))
	for _, r := range []struct {
		name string
		got  api.Hash
		want string
	}{
		{"Leaf of nothing", tree.Leaf(nil), "9ad0dd1a861a45f44168a17b221fa911f3d3beca1cef3a24cc5b77a7663bcaf2"},
		{"Leaf of no bytes", tree.Leaf([]byte{}), "9ad0dd1a861a45f44168a17b221fa911f3d3beca1cef3a24cc5b77a7663bcaf2"},
		{"Leaf of a", a, "e7a9329b3827a884668905f5504f50c6c8fb947d247f963418b81a197985e8a1"},
		{"Leaf of b", b, "992887eb670014c38f889d43edeba59915f8512046d0f35988e92770913b2485"},
		{"Node of two", tree.Node(a, b), "4e5d04ca3359c433b0a9d45be7e70a800b2a9dc7c30d62b484f32a9aa6ac1a90"},
		{"Node of the two in the other order", tree.Node(b, a), "ff0f44c3ceca92cf9809bf193b09532a134db17ea2469ec0d8894c0a5210bfed"},
		{"Root of none", tree.Root(), "3b967332223fb12694acd96fba8d653cc8a973e62d02214274dec4af6e2f9d73"},
		{"Root of one", tree.Root(a), "e7a9329b3827a884668905f5504f50c6c8fb947d247f963418b81a197985e8a1"},
		{"Root of two", tree.Root(a, b), "4e5d04ca3359c433b0a9d45be7e70a800b2a9dc7c30d62b484f32a9aa6ac1a90"},
		{"Root of three", tree.Root(a, b, c), "dbe28b110ba0cb2286e72b2a156706ce958f6564c50cb0fe8627e4471cb4bf89"},
	} {
		if r.got != hashOf(t, r.want) {
			t.Errorf("%s = %x, want %s", r.name, r.got, r.want)
		}
	}
}

func TestLeafOfEachLength(t *testing.T) {
	lengths := []int{api.MaxData, api.MaxBytes - 1, api.MaxBytes, api.MaxBytes + 1, 1<<20 + 7}
	for n := range 400 {
		lengths = append(lengths, n)
	}
	for _, n := range lengths {
		for _, b := range [][]byte{mixed(n), make([]byte, n), bytes.Repeat([]byte{255}, n)} {
			if got, want := tree.Leaf(b), tagged("leaf", string(b)); got != want {
				t.Errorf("Leaf of %d bytes = %x, want %x", n, got, want)
			}
		}
	}
}

func TestLeafOfEachByte(t *testing.T) {
	for x := range 256 {
		for _, b := range [][]byte{{byte(x)}, {byte(x), 0}, {0, byte(x)}} {
			if got, want := tree.Leaf(b), tagged("leaf", string(b)); got != want {
				t.Errorf("Leaf of %d = %x, want %x", b, got, want)
			}
		}
	}
}

func TestNode(t *testing.T) {
	l := append(row(6, 1), api.Hash{}, api.Hash(bytes.Repeat([]byte{255}, 32)), tagged("pad"))
	for _, a := range l {
		for _, b := range l {
			got := tree.Node(a, b)
			if want := node(a, b); got != want {
				t.Errorf("Node of %x, %x = %x, want %x", a, b, got, want)
			}
			if a != b && got == tree.Node(b, a) {
				t.Errorf("Node of %x, %x is the same in the other order", a, b)
			}
			if got == tree.Leaf(append(a[:], b[:]...)) {
				t.Errorf("Node of %x, %x is the Leaf of their bytes", a, b)
			}
		}
	}
}

// Every byte of both hashes is hashed.
func TestNodeOfEachByte(t *testing.T) {
	a, b := row(2, 2)[0], row(2, 2)[1]
	for at := range 32 {
		for _, r := range [][2]api.Hash{{turned(a, at), b}, {a, turned(b, at)}} {
			got := tree.Node(r[0], r[1])
			if want := node(r[0], r[1]); got != want || got == tree.Node(a, b) {
				t.Errorf("Node of %x, %x = %x, want %x", r[0], r[1], got, want)
			}
		}
	}
}

func TestPad(t *testing.T) {
	for _, r := range [][2]int{
		{math.MinInt, 1}, {math.MinInt + 1, 1}, {math.MinInt32, 1}, {-1 << 32, 1}, {-256, 1}, {-2, 1}, {-1, 1},
		{0, 1}, {1, 1}, {2, 2}, {3, 4}, {4, 4}, {5, 8}, {7, 8}, {8, 8}, {9, 16}, {255, 256}, {256, 256}, {257, 512},
	} {
		if got := tree.Pad(r[0]); got != r[1] {
			t.Errorf("Pad(%d) = %d, want %d", r[0], got, r[1])
		}
	}
	for n := range 5000 {
		if got := tree.Pad(n); got != wide(n) {
			t.Errorf("Pad(%d) = %d, want %d", n, got, wide(n))
		}
	}
}

func TestPadAboutEveryPower(t *testing.T) {
	for h := 2; h <= 62; h++ {
		power := 1 << h
		for _, r := range [][2]int{{power/2 + 1, power}, {power - 1, power}, {power, power}, {-power, 1}, {1 - power, 1}, {-1 - power, 1}} {
			if got := tree.Pad(r[0]); got != r[1] {
				t.Errorf("Pad(%d) = %d, want %d", r[0], got, r[1])
			}
		}
		if h < 62 {
			if got := tree.Pad(power + 1); got != 2*power {
				t.Errorf("Pad(%d) = %d, want %d", power+1, got, 2*power)
			}
		}
	}
	// No power of 2 that an int can be is as great.
	for _, n := range []int{1<<62 + 1, 1<<62 + 2, math.MaxInt - 1, math.MaxInt} {
		if got := tree.Pad(n); got != 0 {
			t.Errorf("Pad(%d) = %d, want none", n, got)
		}
	}
}

func TestRootOfEveryNumber(t *testing.T) {
	for _, n := range counts(1025) {
		l := row(n, n)
		if got, want := tree.Root(l...), halved(l, wide(n)); got != want {
			t.Errorf("Root of %d = %x, want %x", n, got, want)
		}
	}
}

func TestRootOfFew(t *testing.T) {
	pad := tagged("pad")
	if got := tree.Root([]api.Hash{}...); got != pad || tree.Root(nil...) != pad || tree.Root() != pad {
		t.Errorf("Root of none = %x, want %x", got, pad)
	}
	for _, leaf := range append(row(3, 3), api.Hash{}, pad) {
		if got := tree.Root(leaf); got != leaf {
			t.Errorf("Root of %x alone = %x", leaf, got)
		}
		if got, want := tree.Root(leaf, leaf), node(leaf, leaf); got != want {
			t.Errorf("Root of %x twice = %x, want %x", leaf, got, want)
		}
		if got, want := tree.Root(leaf, leaf, leaf), node(node(leaf, leaf), node(leaf, pad)); got != want {
			t.Errorf("Root of %x three times = %x, want %x", leaf, got, want)
		}
	}
}

// Leaves that are noughts, or what stands for none, are leaves like all others.
func TestRootOfLeavesLikeNone(t *testing.T) {
	for _, leaf := range []api.Hash{{}, tagged("pad"), tagged("leaf", "")} {
		for n := range 18 {
			for at := range n {
				l := row(n, n)
				l[at] = leaf
				if got, want := tree.Root(l...), halved(l, wide(n)); got != want {
					t.Errorf("Root of %d, %x at %d, = %x, want %x", n, leaf, at, got, want)
				}
			}
			l := slices.Repeat([]api.Hash{leaf}, n)
			if got, want := tree.Root(l...), halved(l, wide(n)); got != want {
				t.Errorf("Root of %x, %d times, = %x, want %x", leaf, n, got, want)
			}
		}
	}
}

// Every byte of every leaf, and the order of the leaves, is in the root.
func TestRootOfOtherLeaves(t *testing.T) {
	for n := 1; n < 18; n++ {
		l := row(n, n)
		root := tree.Root(l...)
		for i := range l {
			for _, at := range []int{0, i, 31} {
				m := slices.Clone(l)
				m[i] = turned(m[i], at)
				if tree.Root(m...) == root {
					t.Errorf("Root of %d is the same with byte %d of leaf %d turned", n, at, i)
				}
			}
			m := slices.Clone(l)
			m[i], m[0] = m[0], m[i]
			if i > 0 && tree.Root(m...) == root {
				t.Errorf("Root of %d is the same with leaves 0 and %d in each other's place", n, i)
			}
		}
	}
}

// P7.2: Proof

func TestProofOfEveryLeaf(t *testing.T) {
	for _, n := range counts(513) {
		l := row(n, n)
		height := 0
		for 1<<height < n {
			height++
		}
		for _, i := range placesOf(n) {
			got, err := tree.Proof(i, l...)
			if want := beside(i, l, wide(n)); err != api.OK || len(got) != height || !slices.Equal(got, want) {
				t.Errorf("Proof of %d of %d = %x, %d, want %x", i, n, got, err, want)
			}
		}
	}
}

// The last leaf of an odd number has none beside it, and may have none above that, too.
func TestProofOfTheLastLeaf(t *testing.T) {
	pad := tagged("pad")
	pads := node(pad, pad)
	l := row(5, 5)
	left := node(node(l[0], l[1]), node(l[2], l[3]))
	for _, r := range []struct {
		l    []api.Hash
		want []api.Hash
	}{
		{l[:1], nil},
		{l[:2], l[:1]},
		{l[:3], []api.Hash{pad, node(l[0], l[1])}},
		{l[:4], []api.Hash{l[2], node(l[0], l[1])}},
		{l[:5], []api.Hash{pad, pads, left}},
	} {
		last := len(r.l) - 1
		if got, err := tree.Proof(last, r.l...); err != api.OK || !slices.Equal(got, r.want) {
			t.Errorf("Proof of %d of %d = %x, %d, want %x", last, len(r.l), got, err, r.want)
		}
	}
}

func TestProofOfNoLeaf(t *testing.T) {
	for _, n := range counts(257) {
		l := row(n, n)
		for _, i := range append(far(), -1, -2, -n, -n-1, n, n+1, 2*n, wide(n), wide(n)+1) {
			if 0 <= i && i < n {
				continue
			}
			if got, err := tree.Proof(i, l...); len(got) != 0 || err != api.ErrArg {
				t.Errorf("Proof of %d of %d = %x, %d, want ErrArg alone", i, n, got, err)
			}
		}
		// Places behind the leaves, where those stand that are none.
		for i := n; i < wide(n); i++ {
			if got, err := tree.Proof(i, l...); len(got) != 0 || err != api.ErrArg {
				t.Errorf("Proof of %d of %d = %x, %d, want ErrArg alone", i, n, got, err)
			}
		}
	}
	for _, i := range []int{-1, 0, 1} {
		if got, err := tree.Proof(i); len(got) != 0 || err != api.ErrArg {
			t.Errorf("Proof of %d of none = %x, %d, want ErrArg alone", i, got, err)
		}
	}
}

// P7.2: Climb, Check

// holdClimb holds the root that a way leads to, and what Check says of it and of others.
func holdClimb(t *testing.T, n, i int, leaf api.Hash, proof []api.Hash, want api.Hash) {
	t.Helper()
	if got, ok := tree.Climb(n, i, leaf, proof); !ok || got != want {
		t.Errorf("Climb(%d, %d, %x, %x) = %x, %v, want %x", n, i, leaf, proof, got, ok, want)
	}
	if !tree.Check(want, n, i, leaf, proof) {
		t.Errorf("Check(%x, %d, %d, %x, %x) = false", want, n, i, leaf, proof)
	}
	for _, other := range []api.Hash{{}, turned(want, 0), turned(want, i%32), turned(want, 31), node(want, want)} {
		if other != want && tree.Check(other, n, i, leaf, proof) {
			t.Errorf("Check(%x, %d, %d, %x, %x) = true, but the root is %x", other, n, i, leaf, proof, want)
		}
	}
}

// holdNoClimb holds that there is no such way, and that it leads to no root.
func holdNoClimb(t *testing.T, why string, n, i int, leaf api.Hash, proof []api.Hash, root api.Hash) {
	t.Helper()
	if got, ok := tree.Climb(n, i, leaf, proof); ok || got != (api.Hash{}) {
		t.Errorf("%s: Climb(%d, %d, %x, %x) = %x, %v, want false alone", why, n, i, leaf, proof, got, ok)
	}
	for _, other := range []api.Hash{root, leaf, {}} {
		if tree.Check(other, n, i, leaf, proof) {
			t.Errorf("%s: Check(%x, %d, %d, %x, %x) = true", why, other, n, i, leaf, proof)
		}
	}
}

func TestClimbOfEveryProof(t *testing.T) {
	for _, n := range counts(256) {
		l := row(n, n)
		root := halved(l, wide(n))
		for _, i := range placesOf(n) {
			holdClimb(t, n, i, l[i], beside(i, l, wide(n)), root)
			proof, err := tree.Proof(i, l...)
			if got, ok := tree.Climb(n, i, l[i], proof); err != api.OK || !ok || got != tree.Root(l...) {
				t.Errorf("the proof of %d of %d climbs to %x, %v, want the Root", i, n, got, ok)
			}
		}
	}
}

// What a way makes where something of it is another one: all hashes make a root, but not that one.
func TestClimbOfOtherWays(t *testing.T) {
	for _, n := range counts(256) {
		l := row(n, n)
		root := halved(l, wide(n))
		for _, i := range placesOf(n) {
			proof := beside(i, l, wide(n))
			for _, leaf := range []api.Hash{{}, turned(l[i], 0), turned(l[i], 31), turned(l[i], i%32), tagged("pad")} {
				made := climbed(i, leaf, proof)
				holdClimb(t, n, i, leaf, proof, made)
				if made == root {
					t.Errorf("leaf %d of %d: another one makes the root", i, n)
				}
			}
			for h := range proof {
				other := slices.Clone(proof)
				other[h] = turned(other[h], (i+h)%32)
				made := climbed(i, l[i], other)
				holdClimb(t, n, i, l[i], other, made)
				if made == root {
					t.Errorf("leaf %d of %d: another hash at %d makes the root", i, n, h)
				}
			}
			for _, place := range []int{0, i ^ 1, i ^ 2, i / 2, n - 1, n - 1 - i} {
				if place != i && place >= 0 && place < n {
					made := climbed(place, l[i], proof)
					holdClimb(t, n, place, l[i], proof, made)
					if made == root {
						t.Errorf("leaf %d of %d: it makes the root in place %d", i, n, place)
					}
				}
			}
		}
	}
}

// Hashes in a turned order are another proof; any hashes are one.
func TestClimbOfAnyProof(t *testing.T) {
	for h := range 9 {
		for n := 1<<h/2 + 1; n <= 1<<h; n += 1 + n/9 {
			for _, i := range placesOf(n) {
				proof := row(h, i)
				holdClimb(t, n, i, tagged("leaf"), proof, climbed(i, tagged("leaf"), proof))
				slices.Reverse(proof)
				holdClimb(t, n, i, tagged("leaf"), proof, climbed(i, tagged("leaf"), proof))
			}
		}
	}
}

// The number of leaves is in no root, but in how high a tree is.
func TestClimbOfNumbersOfOneHeight(t *testing.T) {
	l := row(5, 5)
	for n := 1; n <= 20; n++ {
		for i := range 5 {
			proof := beside(i, l, 8)
			if i < n && 5 <= n && n <= 8 {
				holdClimb(t, n, i, l[i], proof, halved(l, 8))
			} else {
				holdNoClimb(t, "another height, or no such leaf", n, i, l[i], proof, halved(l, 8))
			}
		}
	}
}

func TestClimbOfNoLeaf(t *testing.T) {
	for _, n := range counts(256) {
		l := row(n, n)
		root := halved(l, wide(n))
		leaf := append(slices.Clone(l), tagged("pad"))[0]
		proof := beside(0, l, wide(n))
		for _, i := range append(far(), -1, -2, -n, -n-1, n, n+1, wide(n), 2*wide(n), 256) {
			if i < 0 || i >= n {
				holdNoClimb(t, "no such leaf", n, i, leaf, proof, root)
			}
		}
		for i := n; i < wide(n); i++ {
			holdNoClimb(t, "a place where none stands", n, i, tagged("pad"), beside(i, l, wide(n)), root)
		}
	}
}

func TestClimbOfNoNumber(t *testing.T) {
	l := row(4, 4)
	for _, n := range []int{0, -1, -2, -4, -256, -257, math.MinInt32, -1 << 32, math.MinInt, math.MinInt + 1} {
		for _, i := range []int{0, 1, -1, n, n - 1, n + 1, math.MaxInt, math.MinInt} {
			for h := range 3 {
				holdNoClimb(t, "no leaves", n, i, l[0], beside(0, l, 1<<h)[:h], tree.Root(l...))
			}
		}
	}
}

// Of more than 256 leaves there is a root, and a proof, but no way up.
func TestClimbOfTooMany(t *testing.T) {
	for _, n := range []int{257, 258, 300, 511, 512} {
		l := row(n, n)
		for _, i := range []int{0, 1, 255, 256, n - 1} {
			proof, err := tree.Proof(i, l...)
			if err != api.OK || len(proof) != 9 {
				t.Fatalf("Proof of %d of %d = %x, %d", i, n, proof, err)
			}
			holdNoClimb(t, "too many leaves", n, i, l[i], proof, tree.Root(l...))
			holdNoClimb(t, "too many leaves", n, i, l[i], proof[:8], tree.Root(l...))
		}
	}
	for _, n := range []int{1 << 16, 1<<32 + 1, 1<<32 + 256, 1 << 62, 1<<62 + 1, math.MaxInt} {
		for _, h := range []int{0, 1, 8, 9, 16, 32, 33, 62, 63, 64} {
			holdNoClimb(t, "far too many leaves", n, 0, api.Hash{}, row(h, h), api.Hash{})
			holdNoClimb(t, "far too many leaves", n, n-1, api.Hash{}, row(h, h), api.Hash{})
		}
	}
	l := row(256, 256)
	for _, i := range []int{0, 1, 127, 128, 254, 255} {
		holdClimb(t, 256, i, l[i], beside(i, l, 256), halved(l, 256))
	}
}

func TestClimbOfWrongLengths(t *testing.T) {
	for _, n := range counts(256) {
		l := row(n, n)
		root := halved(l, wide(n))
		for _, i := range placesOf(n) {
			proof := beside(i, l, wide(n))
			for _, longer := range [][]api.Hash{
				append(slices.Clone(proof), api.Hash{}),
				append(slices.Clone(proof), tagged("pad")),
				append([]api.Hash{l[i]}, proof...),
				append(slices.Clone(proof), proof...),
				row(9, 9), row(64, 64), row(256, 256),
			} {
				if len(longer) != len(proof) {
					holdNoClimb(t, "another length", n, i, l[i], longer, climbed(i, l[i], longer[:min(len(longer), 9)]))
				}
			}
			for cut := range proof {
				holdNoClimb(t, "too short", n, i, l[i], proof[:cut], root)
				holdNoClimb(t, "too short, at its beginning", n, i, l[i], proof[len(proof)-cut:], root)
				holdNoClimb(t, "too short, above", n, i, climbed(i, l[i], proof[:cut+1]), proof[cut+1:], root)
			}
		}
	}
}

// A way of no height: the leaf is the root.
func TestClimbOfOneLeaf(t *testing.T) {
	for _, leaf := range append(row(3, 3), api.Hash{}) {
		for _, proof := range [][]api.Hash{nil, {}} {
			if got, ok := tree.Climb(1, 0, leaf, proof); !ok || got != leaf {
				t.Errorf("Climb(1, 0, %x) = %x, %v", leaf, got, ok)
			}
			if !tree.Check(leaf, 1, 0, leaf, proof) || tree.Check(turned(leaf, 9), 1, 0, leaf, proof) {
				t.Errorf("Check of %x alone", leaf)
			}
		}
	}
}

// P7.3

// holdNoBreak holds that two ways have no break, in either order.
func holdNoBreak(t *testing.T, why string, n, i int, a, b api.Hash, p, q []api.Hash) {
	t.Helper()
	for range 2 {
		if got, ok := tree.Break(n, i, a, b, p, q); ok || len(got.A) != 0 || len(got.B) != 0 {
			t.Errorf("%s: Break(%d, %d, %x, %x, %x, %x) = %q, %v, want false alone", why, n, i, a, b, p, q, got, ok)
		}
		a, b, p, q = b, a, q, p
	}
}

func TestNoBreak(t *testing.T) {
	for _, n := range counts(256) {
		l := row(n, n)
		for _, i := range placesOf(n) {
			p := beside(i, l, wide(n))
			holdNoBreak(t, "one way", n, i, l[i], l[i], p, p)
			holdNoBreak(t, "one way", n, i, l[i], l[i], p, slices.Clone(p))
			holdNoBreak(t, "another leaf", n, i, l[i], turned(l[i], 3), p, p)
			holdNoBreak(t, "all others", n, i, l[i], tagged("leaf"), p, row(len(p), 1))
			for h := range p {
				q := slices.Clone(p)
				q[h] = turned(q[h], h)
				holdNoBreak(t, "another hash of the proof", n, i, l[i], l[i], p, q)
			}
		}
	}
}

func TestNoBreakOfNoWay(t *testing.T) {
	l := row(300, 300)
	for _, n := range []int{1, 2, 3, 8, 255, 256} {
		p := beside(0, l[:n], wide(n))
		for _, i := range append(far(), -1, n, n+1) {
			holdNoBreak(t, "no leaf", n, i, l[0], l[0], p, p)
			holdNoBreak(t, "no leaf", n, i, l[0], l[1], p, p)
		}
		longer := append(slices.Clone(p), l[5])
		holdNoBreak(t, "both too long", n, 0, l[0], l[1], longer, longer)
		holdNoBreak(t, "one too long", n, 0, l[0], l[0], p, longer)
		// The way above the first Node, and the way from the leaf, lead to one root.
		if len(p) > 0 {
			holdNoBreak(t, "one too short", n, 0, l[0], node(l[0], p[0]), p, p[1:])
			holdNoBreak(t, "both too short", n, 0, node(l[0], p[0]), node(l[0], p[0]), p[1:], p[1:])
		}
	}
	p := beside(0, l, 512)
	holdNoBreak(t, "too many leaves", 300, 0, l[0], l[0], p, p)
	holdNoBreak(t, "too many leaves", 300, 0, l[0], l[1], p, p)
	for _, n := range []int{0, -1, math.MinInt, math.MaxInt} {
		holdNoBreak(t, "no number of leaves", n, 0, l[0], l[0], nil, nil)
		holdNoBreak(t, "no number of leaves", n, 0, l[0], l[1], nil, nil)
	}
}

// holdAlike holds that two rows have no break, in either order.
func holdAlike(t *testing.T, why string, l, m []api.Hash) {
	t.Helper()
	for range 2 {
		if got, ok := tree.Unlike(l, m); ok || len(got.A) != 0 || len(got.B) != 0 {
			t.Errorf("%s: Unlike(%x, %x) = %q, %v, want false alone", why, l, m, got, ok)
		}
		l, m = m, l
	}
}

func TestAlike(t *testing.T) {
	for _, n := range counts(257) {
		l := row(n, n)
		holdAlike(t, "one row", l, l)
		holdAlike(t, "one row", l, slices.Clone(l))
		holdAlike(t, "all others", l, row(n, n+1))
		for _, i := range placesOf(n) {
			m := slices.Clone(l)
			m[i] = turned(m[i], i%32)
			holdAlike(t, "another leaf", l, m)
		}
		holdAlike(t, "one leaf more", l, append(slices.Clone(l), api.Hash{}))
		holdAlike(t, "one of them none", l, nil)
	}
	holdAlike(t, "none", nil, nil)
	holdAlike(t, "none", nil, []api.Hash{})
}

// Rows of unlike lengths may have one Root without any break: those that are none are in it, and so are Nodes.
func TestAlikeOfUnlikeLengths(t *testing.T) {
	pad := tagged("pad")
	holdAlike(t, "none, and what stands for it", nil, []api.Hash{pad})
	for n := 2; n < 18; n++ {
		l := row(n, n)
		m := slices.Clone(l)
		for len(m) < wide(n) {
			m = append(m, pad)
			if tree.Root(l...) != tree.Root(m...) {
				t.Fatalf("Root of %d leaves, and of %d, with none behind them, are not one", n, len(m))
			}
			holdAlike(t, "with none behind", l, m)
		}
		var above []api.Hash
		for i := 0; i < len(m); i += 2 {
			above = append(above, node(m[i], m[i+1]))
		}
		if tree.Root(above...) != tree.Root(l...) {
			t.Fatalf("Root of %d leaves, and of the Nodes above them, are not one", n)
		}
		holdAlike(t, "the Nodes above", l, above)
	}
}

// Memory

// within is l in memory that has other hashes behind its length, others for another seed.
func within(l []api.Hash, seed int) []api.Hash {
	return slices.Concat(l, row(9, -seed))[:len(l)]
}

// untouched says whether what within made is as it was, also behind its length.
func untouched(l, got []api.Hash, seed int) bool {
	whole := got[:len(l)+9]
	return slices.Equal(whole[:len(l)], l) && slices.Equal(whole[len(l):], row(9, -seed))
}

// spoil writes over all that the list's memory has.
func spoil[T byte | api.Hash](l []T) {
	clear(l[:cap(l)])
}

func TestMemoryOfLeaf(t *testing.T) {
	for _, n := range []int{0, 1, 30, 52, 53, 100} {
		for _, behind := range []string{"????????", "........"} {
			held := slices.Concat(mixed(n), []byte(behind))
			got := tree.Leaf(held[:n])
			if want := tagged("leaf", string(mixed(n))); got != want || string(held) != string(mixed(n))+behind {
				t.Errorf("Leaf of %d bytes within others = %x, want %x; or they are changed", n, got, want)
			}
		}
	}
}

func TestMemoryOfRoot(t *testing.T) {
	for _, n := range counts(65) {
		l := row(n, n)
		for seed := range 2 {
			in := within(l, seed)
			if got, want := tree.Root(in...), halved(l, wide(n)); got != want || !untouched(l, in, seed) {
				t.Errorf("Root of %d within others = %x, want %x; or they are changed", n, got, want)
			}
		}
	}
}

func TestMemoryOfProof(t *testing.T) {
	for _, n := range counts(33)[1:] {
		l := row(n, n)
		for i := range n {
			want := beside(i, l, wide(n))
			for seed := range 2 {
				in := within(l, seed)
				got, err := tree.Proof(i, in...)
				again, _ := tree.Proof(i, in...)
				if err != api.OK || !slices.Equal(got, want) || !untouched(l, in, seed) {
					t.Errorf("Proof of %d of %d within others = %x, want %x; or they are changed", i, n, got, want)
				}
				spoil(got)
				if !untouched(l, in, seed) || !slices.Equal(again, want) {
					t.Errorf("Proof of %d of %d lies in what was handed in, or in what was handed back before", i, n)
				}
				spoil(in)
				if !slices.Equal(again, want) {
					t.Errorf("Proof of %d of %d hangs on what was handed in", i, n)
				}
			}
			in := within(l, 1)
			if _, err := tree.Proof(n, in...); err != api.ErrArg || !untouched(l, in, 1) {
				t.Errorf("Proof of %d of %d changes what was handed in", n, n)
			}
		}
	}
}

func TestMemoryOfClimb(t *testing.T) {
	for _, n := range counts(65)[1:] {
		l := row(n, n)
		for i := range n {
			proof := beside(i, l, wide(n))
			for seed := range 2 {
				in := within(proof, seed)
				holdClimb(t, n, i, l[i], in, halved(l, wide(n)))
				holdNoClimb(t, "no leaf", n, n, l[i], in, halved(l, wide(n)))
				if !untouched(proof, in, seed) {
					t.Errorf("Climb, Check of %d of %d: what was handed in is changed", i, n)
				}
			}
		}
	}
}

func TestMemoryOfNoBreak(t *testing.T) {
	for _, n := range []int{1, 2, 3, 8, 9} {
		l := row(n, n)
		for i := range n {
			proof := beside(i, l, wide(n))
			other := row(len(proof), 7)
			p, q, r := within(proof, 1), within(proof, 2), within(other, 3)
			holdNoBreak(t, "one way", n, i, l[i], l[i], p, q)
			holdNoBreak(t, "unlike roots", n, i, l[i], l[i], p, r[:len(proof)])
			if !untouched(proof, p, 1) || !untouched(proof, q, 2) || !untouched(other, r, 3) {
				t.Errorf("Break of %d of %d: what was handed in is changed", i, n)
			}
		}
		other := row(n, n+1)
		p, q, r := within(l, 1), within(l, 2), within(other, 3)
		holdAlike(t, "one row", p, q)
		holdAlike(t, "unlike roots", p, r)
		if !untouched(l, p, 1) || !untouched(l, q, 2) || !untouched(other, r, 3) {
			t.Errorf("Unlike of %d: what was handed in is changed", n)
		}
	}
}
