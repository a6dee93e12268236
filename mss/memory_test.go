package mss_test

import (
	"bytes"
	"slices"
	"testing"

	"aumbry/api"
	"aumbry/mss"
)

// within is l in memory that has others behind its length.
func within[T any](l []T, behind T) []T {
	return slices.Concat(l, slices.Repeat([]T{behind}, 70))[:len(l)]
}

// untouched says whether what within made is as it was, also behind its length.
func untouched[T comparable](l, got []T, behind T) bool {
	return slices.Equal(got[:len(l)+70], slices.Concat(l, slices.Repeat([]T{behind}, 70)))
}

// sigWithin is a signature in memory that has others behind its length.
func sigWithin(s api.Sig, behind byte) api.Sig {
	s.Values, s.Proof = within(s.Values, api.Hash{behind}), within(s.Proof, api.Hash{behind})
	return s
}

// sigUntouched says whether what sigWithin made is as it was.
func sigUntouched(s, got api.Sig, behind byte) bool {
	return untouched(s.Values, got.Values, api.Hash{behind}) && untouched(s.Proof, got.Proof, api.Hash{behind})
}

// rowWithin is a row of messages within others, each within other bytes.
func rowWithin(row [][]byte, behind byte) [][]byte {
	all := within(row, []byte{behind})
	for i := range all {
		all[i] = within(all[i], behind)
	}
	return all
}

// rowUntouched says whether what rowWithin made is as it was.
func rowUntouched(row, got [][]byte, behind byte) bool {
	for i := range row {
		if !untouched(row[i], got[i], behind) {
			return false
		}
	}
	for _, other := range got[len(row) : len(row)+70] {
		if !bytes.Equal(other, []byte{behind}) {
			return false
		}
	}
	return true
}

// spoil writes over all that a list's memory has.
func spoil[T any](l []T) { clear(l[:cap(l)]) }

func TestMemoryOfLeaves(t *testing.T) {
	for height := range 5 {
		got, again := mss.Leaves(rising(), height), mss.Leaves(rising(), height)
		spoil(got)
		if !slices.Equal(again, leavesOf(rising(), 1<<height)) || !slices.Equal(mss.Leaves(rising(), height), again) {
			t.Errorf("Leaves of height %d lie in memory that was handed back before", height)
		}
	}
}

func TestMemoryOfSign(t *testing.T) {
	m := []byte("message")
	for height := range 5 {
		for leaf := range 1 << height {
			want := signed(rising(), height, leaf, m)
			in := within(m, '?')
			got, _ := mss.Sign(rising(), height, leaf, in)
			again, _ := mss.Sign(rising(), height, leaf, in)
			if !same(got, want) || !untouched(m, in, '?') {
				t.Errorf("Sign of height %d, leaf %d, of a message within others: %v; or it is changed", height, leaf, got)
			}
			spoil(in)
			spoil(got.Values)
			if !slices.Equal(got.Proof, want.Proof) {
				t.Errorf("height %d, leaf %d: Values and Proof lie in one memory", height, leaf)
			}
			spoil(got.Proof)
			if third, _ := mss.Sign(rising(), height, leaf, m); !same(again, want) || !same(third, want) {
				t.Errorf("Sign of height %d, leaf %d lies in memory that was handed in, or back before", height, leaf)
			}
			if _, err := mss.Sign(rising(), height, 1<<height, in); err != api.ErrArg {
				t.Errorf("Sign of height %d, behind the last leaf: %d", height, err)
			}
		}
	}
}

func TestMemoryOfVerify(t *testing.T) {
	eachSig(func(fp api.Hash, m []byte, s api.Sig) {
		for _, behind := range []byte{0, 1} {
			in, sig := within(m, behind), sigWithin(s, behind)
			holdYes(t, "within others", fp, in, sig)
			holdNo(t, "another message, within others", fp, in[:3], sig)
			short := sig
			short.Values = sig.Values[:66]
			holdNo(t, "a value less, within others", fp, in, short)
			short.Values = sig.Values[:68]
			holdNo(t, "a value more, within others", fp, in, short)
			if !untouched(m, in, behind) || !sigUntouched(s, sig, behind) {
				t.Errorf("Verify of height %d, leaf %d: what was handed in is changed", s.Height, s.Leaf)
			}
		}
	})
}

func TestMemoryOfPack(t *testing.T) {
	eachSig(func(_ api.Hash, _ []byte, s api.Sig) {
		sig := sigWithin(s, 9)
		got, again := mss.Pack(sig), mss.Pack(sig)
		if !bytes.Equal(got, packed(s)) || !sigUntouched(s, sig, 9) {
			t.Errorf("Pack of height %d, leaf %d within others = %x; or it is changed", s.Height, s.Leaf, got)
		}
		spoil(got)
		if !sigUntouched(s, sig, 9) || !bytes.Equal(again, packed(s)) {
			t.Errorf("Pack of height %d, leaf %d lies in memory that was handed in, or back before", s.Height, s.Leaf)
		}
		spoil(sig.Values)
		spoil(sig.Proof)
		if !bytes.Equal(again, packed(s)) {
			t.Errorf("Pack of height %d, leaf %d hangs on what was handed in", s.Height, s.Leaf)
		}
	})
}

func TestMemoryOfUnpack(t *testing.T) {
	eachSig(func(_ api.Hash, _ []byte, s api.Sig) {
		b := packed(s)
		in := within(b, 3)
		got, ok := mss.Unpack(in)
		again, okAgain := mss.Unpack(in)
		if !ok || !okAgain || !same(got, s) || !untouched(b, in, 3) {
			t.Errorf("Unpack of height %d, leaf %d within others = %v; or it is changed", s.Height, s.Leaf, got)
		}
		holdNoUnpack(t, "more, within others", in[:len(in)+32])
		holdNoUnpack(t, "less, within others", in[:len(in)-32])
		spoil(got.Values)
		if !slices.Equal(got.Proof, s.Proof) || !untouched(b, in, 3) {
			t.Errorf("height %d, leaf %d: Values and Proof lie in one memory, or in what was handed in", s.Height, s.Leaf)
		}
		spoil(got.Proof)
		if !same(again, s) || !untouched(b, in, 3) {
			t.Errorf("Unpack of height %d, leaf %d lies in memory that was handed in, or back before", s.Height, s.Leaf)
		}
		spoil(in)
		if !same(again, s) {
			t.Errorf("Unpack of height %d, leaf %d hangs on what was handed in", s.Height, s.Leaf)
		}
	})
}

func TestMemoryOfExplain(t *testing.T) {
	m, own := []byte("message"), []byte("own")
	for _, behind := range []byte{0, 7} {
		for _, leaf := range []int{0, 2, 3} {
			s := signed(rising(), 2, leaf, m)
			for _, row := range [][][]byte{nil, at(leaf, nil), at(leaf, own), at(leaf, m)} {
				all, in, sig := rowWithin(row, behind), within(m, behind), sigWithin(s, behind)
				if len(row) > 0 && bytes.Equal(row[leaf], m) {
					holdUnexplained(t, "signed, within others", rising(), 2, all, in, sig)
				} else if len(row) > 0 {
					got := holdLeak(t, "within others", rising(), 2, all, row[leaf], in, sig)
					spoil(got.Break.A)
					spoil(got.Break.B)
				} else {
					holdLeak(t, "no row, within others", rising(), 2, all, nil, in, sig)
				}
				if !rowUntouched(row, all, behind) || !untouched(m, in, behind) || !sigUntouched(s, sig, behind) {
					t.Errorf("leaf %d, %q: what was handed in is changed", leaf, row)
				}
			}
		}
	}
}

func TestMemoryOfHolds(t *testing.T) {
	for _, behind := range []byte{0, 7} {
		for _, row := range [][][]byte{nil, at(1, nil), at(1, []byte("own"))} {
			all := rowWithin(row, behind)
			for chain := range 67 {
				f := secret(rising(), 1, chain, chain%16)
				want := len(row) == 0 || len(row[1]) == 0 || chain%16 < digitsOf(row[1])[chain]
				holdHolds(t, "within others", rising(), 1, all, f, want)
			}
			a, b := []byte("text"), []byte("texu")
			f := mss.Forge{Break: api.Break{A: within(a, behind), B: within(b, behind)}}
			holdHolds(t, "no break, within others", rising(), 1, all, f, false)
			if !rowUntouched(row, all, behind) || !untouched(a, f.Break.A, behind) || !untouched(b, f.Break.B, behind) {
				t.Errorf("%q: what was handed in is changed", row)
			}
		}
	}
}
