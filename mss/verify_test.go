package mss_test

import (
	"math"
	"slices"
	"testing"

	"aumbry/api"
	"aumbry/mss"
)

// P9.1: Verify

// holdNo holds that a signature is not verified.
func holdNo(t *testing.T, why string, fp api.Hash, m []byte, s api.Sig) {
	t.Helper()
	if mss.Verify(fp, m, s) {
		t.Errorf("%s: Verify(%x, %d bytes, height %d, leaf %d, %d values, a proof of %d)", why, fp, len(m), s.Height, s.Leaf, len(s.Values), len(s.Proof))
	}
}

// holdYes holds that it is.
func holdYes(t *testing.T, why string, fp api.Hash, m []byte, s api.Sig) {
	t.Helper()
	if !mss.Verify(fp, m, s) {
		t.Errorf("%s: not Verify(%x, %d bytes, height %d, leaf %d, %d values, a proof of %d)", why, fp, len(m), s.Height, s.Leaf, len(s.Values), len(s.Proof))
	}
}

// eachSig hands out signatures of the first and the last leaf, and of one in between, of each height.
func eachSig(do func(fp api.Hash, m []byte, s api.Sig)) {
	m := []byte("message")
	for height := range 5 {
		leaves := leavesOf(rising(), 1<<height)
		fp := printOf(height, above(leaves, height, 0))
		last := 1<<height - 1
		for _, leaf := range slices.Compact([]int{0, last / 3, last}) {
			do(fp, m, api.Sig{Height: height, Leaf: leaf, Values: valuesOf(rising(), leaf, digitsOf(m)), Proof: beside(leaves, height, leaf)})
		}
	}
}

func TestVerify(t *testing.T) {
	eachSig(func(fp api.Hash, m []byte, s api.Sig) {
		holdYes(t, "as it was signed", fp, m, s)
		again, ok := mss.Unpack(packed(s))
		if !ok {
			t.Fatal("not unpacked")
		}
		holdYes(t, "unpacked", fp, m, again)
	})
	for _, m := range messages() {
		s, _ := mss.Sign(rising(), 1, 1, m)
		fp, _ := mss.Print(rising(), 1)
		holdYes(t, "any message", fp, m, s)
	}
}

func TestVerifyOfAnotherMessage(t *testing.T) {
	all := messages()
	eachSig(func(fp api.Hash, m []byte, s api.Sig) {
		for _, other := range all {
			if string(other) != string(m) {
				holdNo(t, "another message", fp, other, s)
			}
		}
		for at := range m {
			other := slices.Clone(m)
			other[at] ^= 1
			holdNo(t, "a byte of the message turned", fp, other, s)
			holdNo(t, "the message's beginning", fp, m[:at], s)
		}
	})
}

func TestVerifyUnderAnotherPrint(t *testing.T) {
	eachSig(func(fp api.Hash, m []byte, s api.Sig) {
		for at := range 32 {
			holdNo(t, "the print turned", turned(fp, at), m, s)
		}
		root := climbed(s.Leaf, leafOf(m, s.Values), s.Proof)
		for name, other := range map[string]api.Hash{
			"noughts":                   {},
			"the root":                  root,
			"without a height":          tagged("print", raw(root)),
			"the height behind":         tagged("print", raw(root), string([]byte{byte(s.Height)})),
			"two bytes of height":       tagged("print", string([]byte{0, byte(s.Height)}), raw(root)),
			"a digit of height":         tagged("print", string([]byte{byte('0' + s.Height)}), raw(root)),
			"a height one more":         printOf(s.Height+1, root),
			"a height one less":         printOf(s.Height-1, root),
			"another tag":               tagged("root", string([]byte{byte(s.Height)}), raw(root)),
			"height and root as a row":  tagged("print", string([]byte{byte(s.Height)})+raw(root)),
			"the print's print":         printOf(s.Height, fp),
			"the height and the leaf":   printOf(s.Height, leafOf(m, s.Values)),
			"the leaf in another place": printOf(s.Height, above(leavesOf(rising(), 32), s.Height, 1)),
		} {
			if other == fp {
				continue // of one leaf the leaf is the root
			}
			holdNo(t, name, other, m, s)
		}
		for _, seed := range seeds()[2:4] {
			other, _ := mss.Print(seed, s.Height)
			holdNo(t, "another seed's print", other, m, s)
		}
	})
}

func TestVerifyOfAnotherHeight(t *testing.T) {
	eachSig(func(fp api.Hash, m []byte, s api.Sig) {
		for _, height := range append(noHeights(), 0, 1, 2, 3, 4, s.Height-1, s.Height+1) {
			if height == s.Height {
				continue
			}
			other := clone(s)
			other.Height = height
			holdNo(t, "another height", fp, m, other)
			if height < 0 || height > 4 {
				continue
			}
			// With as long a proof as that height asks for, under its own print and under this one.
			other.Proof = append(other.Proof, row(4, 1)...)[:height]
			holdNo(t, "another height, and as long a proof", fp, m, other)
		}
	})
}

// A tree that is too high, or whose height is another one of the same byte, has no print, though all else is right.
func TestVerifyOfNoHeight(t *testing.T) {
	m := []byte("message")
	for height := range 9 {
		proof := row(height, 1)
		s := api.Sig{Height: height, Leaf: 0, Values: row(67, 2), Proof: proof}
		fp := printOf(height, climbed(0, leafOf(m, s.Values), proof))
		if height <= 4 {
			holdYes(t, "any tree", fp, m, s)
		} else {
			holdNo(t, "too high a tree", fp, m, s)
		}
		for _, more := range []int{-512, -256, 256, 512, 1 << 16, 1 << 32, 1 << 62, math.MinInt} {
			s.Height = height + more
			holdNo(t, "another height of the same byte", fp, m, s)
		}
	}
	// A height below 0 is put as 0.
	s := api.Sig{Values: row(67, 3)}
	fp := printOf(0, leafOf(m, s.Values))
	holdYes(t, "one leaf", fp, m, s)
	for _, height := range noHeights() {
		s.Height = height
		holdNo(t, "one leaf of no height", fp, m, s)
	}
}

func TestVerifyOfAnotherLeaf(t *testing.T) {
	eachSig(func(fp api.Hash, m []byte, s api.Sig) {
		count := 1 << s.Height
		far := append(leavesFar(), -1, -count, s.Leaf-count, count, s.Leaf+count, s.Leaf+256, s.Leaf+1<<16, s.Leaf+1<<32)
		for leaf := range count {
			far = append(far, leaf)
		}
		for _, leaf := range far {
			if leaf != s.Leaf {
				other := clone(s)
				other.Leaf = leaf
				holdNo(t, "another leaf", fp, m, other)
			}
		}
	})
}

// Where a leaf stands is for its proof to say: any one that leads to the root is right.
func TestVerifyInEachPlace(t *testing.T) {
	m := []byte("message")
	values := row(67, 4)
	for height := range 5 {
		for place := range 1 << height {
			leaves := row(1<<height, 5)
			leaves[place] = leafOf(m, values)
			leaves[0] = leaves[place]
			fp := printOf(height, above(leaves, height, 0))
			holdYes(t, "its place", fp, m, api.Sig{Height: height, Leaf: place, Values: values, Proof: beside(leaves, height, place)})
			holdYes(t, "its other place", fp, m, api.Sig{Height: height, Leaf: 0, Values: values, Proof: beside(leaves, height, 0)})
			if place > 1 { // (of the first two the proofs are one)
				holdNo(t, "a place with the other one's proof", fp, m, api.Sig{Height: height, Leaf: 0, Values: values, Proof: beside(leaves, height, place)})
			}
		}
	}
}

func TestVerifyOfAnotherNumberOfValues(t *testing.T) {
	eachSig(func(fp api.Hash, m []byte, s api.Sig) {
		for _, l := range [][]api.Hash{
			nil, {}, s.Values[:1], s.Values[:64], s.Values[:66], s.Values[1:],
			append(slices.Clone(s.Values), api.Hash{}),
			append(slices.Clone(s.Values), s.Values[66]),
			append(slices.Clone(s.Values), s.Values...),
			append(make([]api.Hash, 1), s.Values...),
			row(256+67, 1),
		} {
			other := clone(s)
			other.Values = l
			holdNo(t, "another number of values", fp, m, other)
		}
	})
}

func TestVerifyOfOtherValues(t *testing.T) {
	eachSig(func(fp api.Hash, m []byte, s api.Sig) {
		for chain := range s.Values {
			other := clone(s)
			other.Values[chain] = turned(other.Values[chain], chain)
			holdNo(t, "a value turned", fp, m, other)
			other.Values[chain] = walked(s.Values[chain], 1)
			holdNo(t, "a value a step further", fp, m, other)
			other = clone(s)
			next := (chain + 1) % 67
			other.Values[chain], other.Values[next] = other.Values[next], other.Values[chain]
			holdNo(t, "two values in one another's place", fp, m, other)
		}
		other := clone(s)
		other.Values[0], other.Values[66] = other.Values[66], other.Values[0]
		holdNo(t, "the first value and the last one in one another's place", fp, m, other)
		slices.Reverse(other.Values)
		holdNo(t, "all values in another order", fp, m, other)
	})
}

func TestVerifyOfAnotherProof(t *testing.T) {
	eachSig(func(fp api.Hash, m []byte, s api.Sig) {
		for level := range s.Proof {
			other := clone(s)
			other.Proof[level] = turned(other.Proof[level], 7*level)
			holdNo(t, "a hash of the proof turned", fp, m, other)
			other.Proof = s.Proof[:level]
			holdNo(t, "fewer hashes of the proof", fp, m, other)
			other.Proof = s.Proof[level+1:]
			holdNo(t, "fewer hashes at the proof's beginning", fp, m, other)
			other.Proof = slices.Insert(slices.Clone(s.Proof), level, api.Hash{})
			holdNo(t, "one hash more within the proof", fp, m, other)
			if level > 0 {
				other.Proof = slices.Clone(s.Proof)
				other.Proof[level-1], other.Proof[level] = other.Proof[level], other.Proof[level-1]
				holdNo(t, "two hashes of the proof in one another's place", fp, m, other)
			}
		}
		for _, more := range [][]api.Hash{{{}}, row(1, 1), row(4, 1), s.Proof, row(256, 1)} {
			if len(more) > 0 {
				other := clone(s)
				other.Proof = append(other.Proof, more...)
				holdNo(t, "more hashes of the proof", fp, m, other)
			}
		}
	})
}

// A tree that is one level higher, and lower, than its height says has its root, but no proof of that length.
func TestVerifyOfAnotherLengthOfProof(t *testing.T) {
	m := []byte("message")
	values := row(67, 6)
	leaf := leafOf(m, values)
	for height := range 5 {
		for long := range 9 {
			s := api.Sig{Height: height, Leaf: 0, Values: values, Proof: row(long, 7)}
			fp := printOf(height, climbed(0, leaf, s.Proof))
			if long == height {
				holdYes(t, "a proof of its length", fp, m, s)
			} else {
				holdNo(t, "a proof of another length", fp, m, s)
			}
		}
	}
}

func TestVerifyOfNothing(t *testing.T) {
	for _, fp := range []api.Hash{{}, printOf(0, api.Hash{}), printOf(0, tagged("pad")), printOf(0, tagged("public"))} {
		for _, m := range [][]byte{nil, []byte("message")} {
			holdNo(t, "nothing", fp, m, api.Sig{})
			for height := range 5 {
				holdNo(t, "no values", fp, m, api.Sig{Height: height, Proof: make([]api.Hash, height)})
			}
		}
	}
}
