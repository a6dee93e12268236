package mss_test

import (
	"bytes"
	"crypto/sha256"
	"encoding/hex"
	"math"
	"slices"
	"strconv"
	"strings"
	"testing"

	"aumbry/api"
	"aumbry/mss"
)

// This is another maker of all that package mss tells, by which it is held.

// tagged is a tagged hash.
func tagged(tag string, rows ...string) api.Hash {
	return sum([]byte(text(tag, rows...)))
}

// text is what is hashed for it.
func text(tag string, rows ...string) string {
	var all strings.Builder
	for _, row := range append([]string{tag}, rows...) {
		all.WriteString(strconv.Itoa(len(row)) + ":" + row + ",")
	}
	return all.String()
}

// raw is a hash's bytes.
func raw(h api.Hash) string { return string(h[:]) }

// digitsOf is the digits of what has a byte at least, and of what has none.
func digitsOf(m []byte) []int {
	hash := tagged("msg", string(m))
	digits, lack := []int{}, 64*15
	for _, letter := range hex.EncodeToString(hash[:]) {
		digits = append(digits, strings.IndexRune("0123456789abcdef", letter))
		lack -= digits[len(digits)-1]
	}
	return append(digits, lack/256, lack/16%16, lack%16)
}

// walked is what stands n steps behind h.
func walked(h api.Hash, n int) api.Hash {
	for range n {
		h = tagged("step", raw(h))
	}
	return h
}

// startOf is where a chain starts.
func startOf(seed api.Key, leaf, chain int) api.Hash {
	return tagged("start", string(seed[:]), string([]byte{0, 0, byte(leaf >> 8), byte(leaf)}), string([]byte{0, 0, 0, byte(chain)}))
}

// valuesOf is what stands on a leaf's chains at digits.
func valuesOf(seed api.Key, leaf int, digits []int) []api.Hash {
	var all []api.Hash
	for chain, digit := range digits {
		all = append(all, walked(startOf(seed, leaf, chain), digit))
	}
	return all
}

// endsOf is where the chains end on which values stand at digits.
func endsOf(values []api.Hash, digits []int) []api.Hash {
	var all []api.Hash
	for chain, digit := range digits {
		all = append(all, walked(values[chain], 15-digit))
	}
	return all
}

// textOfEnds is what is hashed for a leaf.
func textOfEnds(ends []api.Hash) string {
	var rows []string
	for _, end := range ends {
		rows = append(rows, raw(end))
	}
	return text("public", rows...)
}

// leafOf is the leaf of which values are m's signature.
func leafOf(m []byte, values []api.Hash) api.Hash {
	return sum([]byte(textOfEnds(endsOf(values, digitsOf(m)))))
}

// madeEnds keeps the ends that trueEnds made: each leaf's take a thousand hashes.
var madeEnds = map[api.Key][][]api.Hash{}

// trueEnds is the ends of a leaf's chains.
func trueEnds(seed api.Key, leaf int) []api.Hash {
	for next := len(madeEnds[seed]); next <= leaf; next++ {
		madeEnds[seed] = append(madeEnds[seed], valuesOf(seed, next, slices.Repeat([]int{15}, 67)))
	}
	return madeEnds[seed][leaf]
}

// leavesOf is the first leaves of a seed.
func leavesOf(seed api.Key, n int) []api.Hash {
	var all []api.Hash
	for leaf := range n {
		all = append(all, sum([]byte(textOfEnds(trueEnds(seed, leaf)))))
	}
	return all
}

// printOfSeed is the print of a seed's tree.
func printOfSeed(seed api.Key, height int) api.Hash {
	return printOf(height, above(leavesOf(seed, 1<<height), height, 0))
}

// above is what stands over leaves, so many levels up, at a place.
func above(leaves []api.Hash, level, place int) api.Hash {
	if level == 0 {
		return leaves[place]
	}
	return tagged("node", raw(above(leaves, level-1, 2*place)), raw(above(leaves, level-1, 2*place+1)))
}

// beside is a leaf's proof.
func beside(leaves []api.Hash, height, leaf int) []api.Hash {
	var proof []api.Hash
	for level := range height {
		place := leaf >> level
		proof = append(proof, above(leaves, level, place+1-2*(place%2)))
	}
	return proof
}

// climbed is the root that a leaf makes with its proof.
func climbed(leaf int, hash api.Hash, proof []api.Hash) api.Hash {
	for _, other := range proof {
		if leaf%2 == 0 {
			hash = tagged("node", raw(hash), raw(other))
		} else {
			hash = tagged("node", raw(other), raw(hash))
		}
		leaf /= 2
	}
	return hash
}

// textOfPrint is what is hashed for a print.
func textOfPrint(height int, root api.Hash) string {
	return text("print", string([]byte{byte(height)}), raw(root))
}

// printOf is the print of a tree.
func printOf(height int, root api.Hash) api.Hash {
	return sum([]byte(textOfPrint(height, root)))
}

// signed is a leaf's signature of m, of any height.
func signed(seed api.Key, height, leaf int, m []byte) api.Sig {
	return api.Sig{
		Height: height,
		Leaf:   leaf,
		Values: valuesOf(seed, leaf, digitsOf(m)),
		Proof:  beside(leavesOf(seed, 1<<height), height, leaf),
	}
}

// packed is a signature's bytes.
func packed(s api.Sig) []byte {
	b := []byte{byte(s.Height), byte(s.Leaf >> 8), byte(s.Leaf)}
	for _, l := range [][]api.Hash{s.Values, s.Proof} {
		for _, hash := range l {
			b = append(b, raw(hash)...)
		}
	}
	return b
}

// same says whether two signatures are one.
func same(a, b api.Sig) bool {
	return a.Height == b.Height && a.Leaf == b.Leaf && slices.Equal(a.Values, b.Values) && slices.Equal(a.Proof, b.Proof)
}

// isNone says whether a signature is the zero value.
func isNone(s api.Sig) bool { return same(s, api.Sig{}) }

// sameForge says whether two forgeries are one.
func sameForge(a, b mss.Forge) bool {
	rest := a.Leak == b.Leak && a.Leaf == b.Leaf && a.Chain == b.Chain && a.Place == b.Place && a.Value == b.Value
	return rest && bytes.Equal(a.Break.A, b.Break.A) && bytes.Equal(a.Break.B, b.Break.B)
}

// clone is a signature in memory of its own.
func clone(s api.Sig) api.Sig {
	s.Values, s.Proof = slices.Clone(s.Values), slices.Clone(s.Proof)
	return s
}

// row is n unlike hashes, others for another seed.
func row(n, seed int) []api.Hash {
	l := make([]api.Hash, n)
	for i := range l {
		l[i] = sha256.Sum256([]byte(strconv.Itoa(seed) + " " + strconv.Itoa(i)))
	}
	return l
}

// mixed is n bytes far from any rule.
func mixed(n int) []byte {
	b := make([]byte, n)
	for i := range b {
		b[i] = byte(i*i*31 + i*7 + i>>8 + 3)
	}
	return b
}

// rising is the seed 0, 1, 2, ..
func rising() api.Key {
	var seed api.Key
	for i := range seed {
		seed[i] = byte(i)
	}
	return seed
}

// seeds are unlike seeds: noughts and the greatest one among them.
func seeds() []api.Key {
	return []api.Key{{}, rising(), {15: 1}, {0: 128}, api.Key(bytes.Repeat([]byte{255}, 16)), api.Key(mixed(16))}
}

// messages are messages of many lengths and kinds.
func messages() [][]byte {
	all := [][]byte{nil, {}, {0}, {255}, {0, 0}, []byte("abc"), []byte("message"), []byte("message "), bytes.Repeat([]byte{255}, 64)}
	for _, n := range []int{31, 32, 33, 55, 56, 64, 100, 1000, api.MaxData, api.MaxBytes, api.MaxBytes + 1} {
		all = append(all, mixed(n))
	}
	return all
}

// noHeights are heights of which there is no tree.
func noHeights() []int {
	return []int{
		-1, -2, -4, -5, -255, -256, -1 << 31, -1 << 32, math.MinInt + 1, math.MinInt,
		5, 6, 7, 8, 9, 16, 31, 32, 60, 61, 62, 63, 64, 65, 128, 255, 256, 257, 260, 1 << 16, 1<<32 + 1, 1 << 62, math.MaxInt - 1, math.MaxInt,
	}
}

// leavesFar are numbers far from all leaves; modulo many powers of 2 they are leaves.
func leavesFar() []int {
	return []int{math.MinInt, math.MinInt + 1, -1 << 32, -1 << 16, -256, -17, -16, -15, 17, 31, 32, 255, 256, 257, 1 << 16, 1<<16 + 1, 1 << 31, 1 << 32, 1<<32 + 1, 1 << 62, math.MaxInt - 1, math.MaxInt}
}

// hashOf reads a hash's 64 digits.
func hashOf(t *testing.T, digits string) api.Hash {
	t.Helper()
	b, err := hex.DecodeString(digits)
	if err != nil || len(b) != len(api.Hash{}) {
		t.Fatal("no hash:", digits)
	}
	return api.Hash(b)
}

// turned is a hash with one byte turned.
func turned(h api.Hash, at int) api.Hash {
	h[at%32] ^= 0x40
	return h
}
