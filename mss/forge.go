package mss

import (
	"bytes"
	"slices"

	"aumbry/api"
	"aumbry/sha"
	"aumbry/tree"
	"aumbry/wots"
)

// places is how many hashes stand on a chain, its start and its end among them.
const places = 16

// Forge is how a signature that nobody made came to be right.
type Forge struct {
	Break              api.Break
	Leak               bool
	Leaf, Chain, Place int
	Value              api.Hash
}

// Explain tells how s came to be right for m under the seed's print, though its leaf did not sign just m; false: it is not right, or the leaf did. In a break the true text comes first.
func Explain(seed api.Key, height int, signed [][]byte, m []byte, s api.Sig) (Forge, bool) {
	leaves := Leaves(seed, height)
	root := tree.Root(leaves...)
	if len(leaves) == 0 || !Verify(printOf(height, root), m, s) {
		return Forge{}, false
	}
	own := messageOf(signed, height, s.Leaf)
	if len(own) > 0 && bytes.Equal(own, m) {
		return Forge{}, false
	}
	made, _ := rootOf(m, s)
	if clash, ok := unlike(printText(height, root), printText(s.Height, made)); ok {
		return Forge{Break: clash}, true
	}
	// The prints are of one text, and so of one height: the leaf is one of the seed's.
	truth, _ := signUnder(leaves, seed, height, s.Leaf, m)
	if clash, ok := clashToEnds(m, truth, s); ok {
		return Forge{Break: clash}, true
	}
	return explainChains(own, m, truth, s), true
}

// messageOf tells what a leaf, 0 at least, signed; none: it signed nothing, or there is no such leaf.
func messageOf(signed [][]byte, height, leaf int) []byte {
	if leaf >= min(leafCount(height), len(signed)) {
		return nil
	}
	return signed[leaf]
}

// digitsOf tells the digits of what a leaf signed; none: it signed nothing.
func digitsOf(own []byte) []int {
	if len(own) == 0 {
		return nil
	}
	return wots.Digits(own)
}

// unlike tells two texts of one hash as a break; false: they are one text.
func unlike(a, b []byte) (api.Break, bool) {
	if bytes.Equal(a, b) {
		return api.Break{}, false
	}
	return api.Break{A: a, B: b}, true
}

// clashToEnds tells the break between one print and the ends of the chains of a leaf's two signatures of m; false: down to these ends they are one.
func clashToEnds(m []byte, truth, s api.Sig) (api.Break, bool) {
	public, _ := wots.Recover(m, truth.Values)
	other, _ := wots.Recover(m, s.Values)
	if clash, ok := tree.Break(leafCount(s.Height), s.Leaf, public, other, truth.Proof, s.Proof); ok {
		return clash, true
	}
	return unlike(publicText(m, truth), publicText(m, s))
}

// publicText is what is hashed for the leaf of which s is a signature of m.
func publicText(m []byte, s api.Sig) []byte {
	ends, _ := wots.Ends(m, s.Values)
	rows := make([][]byte, len(ends))
	for chain := range ends {
		rows[chain] = ends[chain][:]
	}
	return sha.Text("public", rows...)
}

// explainChains tells how s came to be right on its chains, whose ends are those of the leaf that signed own.
func explainChains(own, m []byte, truth, s api.Sig) Forge {
	digits, given := wots.Digits(m), digitsOf(own)
	if slices.Equal(digits, given) {
		return Forge{Break: api.Break{A: sha.Text("msg", own), B: sha.Text("msg", m)}}
	}
	chain := firstBelow(digits, given)
	place, value := digits[chain], s.Values[chain]
	if clash, ok := clashOfSteps(truth.Values[chain], value); ok {
		return Forge{Break: clash}
	}
	return Forge{Leak: true, Leaf: s.Leaf, Chain: chain, Place: place, Value: value}
}

// firstBelow tells the first chain in which a digit is below the one that was given out; 0, if none was.
func firstBelow(digits, given []int) int {
	for chain := range given {
		if digits[chain] < given[chain] {
			return chain
		}
	}
	return 0
}

// clashOfSteps tells the last unlike texts on two ways to one end; false: they are one way. Behind hashes that are one nothing is unlike any more.
func clashOfSteps(a, b api.Hash) (api.Break, bool) {
	if a == b {
		return api.Break{}, false
	}
	for range places {
		next, other := wots.Step(a), wots.Step(b)
		if next == other {
			return api.Break{A: stepText(a), B: stepText(b)}, true
		}
		a, b = next, other
	}
	return api.Break{}, false
}

// stepText is what is hashed for a step.
func stepText(h api.Hash) []byte {
	return sha.Text("step", h[:])
}

// Holds tells whether f is such as Explain tells: a break, or a hash of the seed's that was not given out.
func Holds(seed api.Key, height int, signed [][]byte, f Forge) bool {
	if !isBelow(f.Leaf, leafCount(height)) || !isBelow(f.Chain, api.Chains) || !isBelow(f.Place, places) {
		return false
	}
	return sha.Same(f.Break) || f.Leak && isSecret(seed, messageOf(signed, height, f.Leaf), f)
}

// isBelow tells whether n is from 0 to below an end.
func isBelow(n, end int) bool {
	return n >= 0 && n < end
}

// isSecret tells whether f's value is what stands at its place, and the leaf that signed own did not give that out.
func isSecret(seed api.Key, own []byte, f Forge) bool {
	if wots.Along(wots.Start(seed, f.Leaf, f.Chain), f.Place) != f.Value {
		return false
	}
	given := digitsOf(own)
	return len(given) == 0 || given[f.Chain] > f.Place
}
