package mss_test

import (
	"bytes"
	"math"
	"slices"
	"strconv"
	"testing"

	"aumbry/api"
	"aumbry/mss"
)

// P9.3: Explain. No two unlike texts of one SHA-256 are known, so here a signature that nobody made is made with the seed itself: a leak. clash_test.go has those that are made of breaks.

// leakOf is the leak that there is where the seed itself signed m with a leaf that signed own, or nothing.
func leakOf(own, m []byte, s api.Sig) mss.Forge {
	digits, chain := digitsOf(m), 0
	if len(own) > 0 {
		for given := digitsOf(own); digits[chain] >= given[chain]; {
			chain++
		}
	}
	return mss.Forge{Leak: true, Leaf: s.Leaf, Chain: chain, Place: digits[chain], Value: s.Values[chain]}
}

// holdLeak holds what is told of a signature that the seed itself made, and that it holds.
func holdLeak(t *testing.T, why string, seed api.Key, height int, row [][]byte, own, m []byte, s api.Sig) mss.Forge {
	t.Helper()
	got, ok := mss.Explain(seed, height, row, m, s)
	if want := leakOf(own, m, s); !ok || !sameForge(got, want) {
		t.Errorf("%s: Explain(%q, %q, height %d, leaf %d) = %v, %v, want %v", why, row, m, s.Height, s.Leaf, got, ok, want)
	}
	if !mss.Holds(seed, height, row, got) {
		t.Errorf("%s: %v of %q does not hold", why, got, row)
	}
	return got
}

// holdUnexplained holds false, with nothing beside it.
func holdUnexplained(t *testing.T, why string, seed api.Key, height int, row [][]byte, m []byte, s api.Sig) {
	t.Helper()
	if got, ok := mss.Explain(seed, height, row, m, s); ok || !sameForge(got, mss.Forge{}) {
		t.Errorf("%s: Explain(%x, %d, %q, %q, height %d, leaf %d) = %v, %v, want false alone", why, seed, height, row, m, s.Height, s.Leaf, got, ok)
	}
}

// at is a row in which a leaf signed own, and those before it something else.
func at(leaf int, own []byte) [][]byte {
	var all [][]byte
	for i := range leaf {
		all = append(all, []byte("of leaf "+strconv.Itoa(i)))
	}
	return append(all, own)
}

func TestExplainOfALeafThatSignedNothing(t *testing.T) {
	m := []byte("message")
	for height := range 4 {
		for leaf := range 1 << height {
			s := signed(rising(), height, leaf, m)
			others := at(leaf, nil)
			all := slices.Repeat([][]byte{m}, 20)
			all[leaf] = nil
			for name, row := range map[string][][]byte{
				"no row":                         nil,
				"an empty row":                   {},
				"a row that ends before it":      others[:leaf],
				"nothing":                        others,
				"an empty message":               at(leaf, []byte{}),
				"all others signed this message": all,
				"all before it did":              all[:leaf],
			} {
				got := holdLeak(t, name, rising(), height, row, nil, m, s)
				if got.Chain != 0 || got.Leaf != leaf {
					t.Errorf("%s: leaf %d, chain %d, want %d, 0", name, got.Leaf, got.Chain, leaf)
				}
			}
		}
	}
}

// Every place on the first chain, both ends among them.
func TestExplainAtEveryPlace(t *testing.T) {
	found := map[int]int{}
	for n := range 150 {
		m := []byte(strconv.Itoa(n))
		s := signed(rising(), 0, 0, m)
		found[holdLeak(t, "nothing", rising(), 0, nil, nil, m, s).Place]++
	}
	for place := range 16 {
		if found[place] == 0 {
			t.Errorf("no message has its first digit at %d", place)
		}
	}
}

// An empty message is none that a leaf can have signed.
func TestExplainOfTheEmptyMessage(t *testing.T) {
	for _, m := range [][]byte{nil, {}} {
		s := signed(rising(), 1, 1, m)
		for _, row := range [][][]byte{nil, {}, {nil}, {nil, nil}, {{}, {}}, {[]byte("a"), {}}, {[]byte("a"), nil, nil}} {
			holdLeak(t, "the empty message", rising(), 1, row, nil, m, s)
		}
		holdLeak(t, "the empty message", rising(), 1, at(1, []byte("message")), []byte("message"), m, s)
	}
}

func TestExplainOfAnotherMessage(t *testing.T) {
	found := map[int]int{}
	for n := range 120 {
		own, m := []byte("signed "+strconv.Itoa(n)), []byte("not "+strconv.Itoa(n))
		height := n % 3
		leaf := n % (1 << height)
		s := signed(rising(), height, leaf, m)
		row := at(leaf, own)
		found[holdLeak(t, "another message", rising(), height, row, own, m, s).Chain]++
		row = append(row, m, m, m)
		holdLeak(t, "another message, and others behind it", rising(), height, row, own, m, s)
	}
	for chain := range 4 {
		if found[chain] == 0 {
			t.Errorf("no pair of messages has its first digit below at %d", chain)
		}
	}
	// A leaf of the highest tree, and a seed of noughts.
	own, m := []byte("own"), []byte("message")
	for _, leaf := range []int{0, 9, 15} {
		holdLeak(t, "the highest tree", api.Key{}, 4, at(leaf, own), own, m, signed(api.Key{}, 4, leaf, m))
	}
}

// Just m, and nothing like it, is what the leaf must have signed.
func TestExplainOfAMessageLikeIt(t *testing.T) {
	m := []byte("message")
	s := signed(rising(), 1, 1, m)
	turnedEnd := slices.Clone(m)
	turnedEnd[6] ^= 1
	for _, own := range [][]byte{m[:6], m[1:], append(slices.Clone(m), 0), append([]byte{0}, m...), turnedEnd, bytes.ToUpper(m), append(slices.Clone(m), m...), {0}} {
		holdLeak(t, "a message like it", rising(), 1, at(1, own), own, m, s)
		other := signed(rising(), 1, 1, own)
		holdLeak(t, "a message like it", rising(), 1, at(1, m), m, own, other)
	}
}

func TestExplainOfWhatWasSigned(t *testing.T) {
	for _, m := range messages()[2:] {
		s := signed(rising(), 1, 1, m)
		holdUnexplained(t, "signed", rising(), 1, at(1, slices.Clone(m)), m, s)
		holdUnexplained(t, "signed, and others behind it", rising(), 1, append(at(1, m), []byte("a"), nil, m), m, s)
	}
	for height := range 5 {
		m := []byte("message")
		last := 1<<height - 1
		s, _ := mss.Sign(rising(), height, last, m)
		holdUnexplained(t, "signed by the last leaf", rising(), height, at(last, m), m, s)
		row := slices.Repeat([][]byte{nil}, last+1)
		row[last] = m
		holdUnexplained(t, "signed by the last leaf alone", rising(), height, row, m, s)
	}
}

// What is not right has no explanation, whatever the leaf signed.
func TestExplainOfWhatIsNotRight(t *testing.T) {
	eachSig(func(fp api.Hash, m []byte, s api.Sig) {
		height := s.Height
		for _, row := range [][][]byte{nil, at(s.Leaf, []byte("own"))} {
			hold := func(why string, change func(*api.Sig)) {
				t.Helper()
				other := clone(s)
				change(&other)
				holdUnexplained(t, why, rising(), height, row, m, other)
			}
			hold("a value turned", func(s *api.Sig) { s.Values[0] = turned(s.Values[0], 0) })
			hold("another value turned", func(s *api.Sig) { s.Values[66] = turned(s.Values[66], 31) })
			hold("no values", func(s *api.Sig) { s.Values = nil })
			hold("a value less", func(s *api.Sig) { s.Values = s.Values[:66] })
			hold("a value more", func(s *api.Sig) { s.Values = append(s.Values, api.Hash{}) })
			hold("a proof too long", func(s *api.Sig) { s.Proof = append(s.Proof, api.Hash{}) })
			hold("another leaf", func(s *api.Sig) { s.Leaf ^= 1 })
			hold("a leaf behind the last one", func(s *api.Sig) { s.Leaf += 1 << s.Height })
			hold("a leaf below 0", func(s *api.Sig) { s.Leaf -= 1 << s.Height })
			hold("a height more", func(s *api.Sig) { s.Height++ })
			hold("a height less", func(s *api.Sig) { s.Height-- })
			hold("no height", func(s *api.Sig) { s.Height += 256 })
			hold("nothing", func(s *api.Sig) { *s = api.Sig{} })
			if height > 0 {
				hold("a proof turned", func(s *api.Sig) { s.Proof[height-1] = turned(s.Proof[height-1], 5) })
				hold("a proof too short", func(s *api.Sig) { s.Proof = s.Proof[1:] })
			}
			holdUnexplained(t, "another message", rising(), height, row, []byte("another"), s)
			holdUnexplained(t, "the empty message", rising(), height, row, nil, s)
			holdUnexplained(t, "another seed", api.Key{}, height, row, m, s)
			for other := range 5 {
				if other != height {
					holdUnexplained(t, "another height", rising(), other, row, m, s)
				}
			}
		}
		// The message that it is not the signature of is the one that the leaf signed.
		holdUnexplained(t, "what the leaf signed", rising(), height, at(s.Leaf, []byte("own")), []byte("own"), s)
	})
}

func TestExplainOfNoHeight(t *testing.T) {
	m := []byte("message")
	for _, height := range noHeights() {
		for real := range 5 {
			holdUnexplained(t, "no height", rising(), height, nil, m, signed(rising(), real, 0, m))
		}
		s := signed(rising(), 0, 0, m)
		s.Height = height
		holdUnexplained(t, "no height", rising(), height, nil, m, s)
		if height == 5 || height == 6 {
			holdUnexplained(t, "too high a tree", rising(), height, nil, m, signed(rising(), height, 1, m))
		}
	}
}

// P9.4: Holds

// secret is the leak of a leaf's chain at a place.
func secret(seed api.Key, leaf, chain, place int) mss.Forge {
	return mss.Forge{Leak: true, Leaf: leaf, Chain: chain, Place: place, Value: walked(startOf(seed, leaf, chain), place)}
}

// holdHolds holds what is told of a forgery.
func holdHolds(t *testing.T, why string, seed api.Key, height int, row [][]byte, f mss.Forge, want bool) {
	t.Helper()
	if got := mss.Holds(seed, height, row, f); got != want {
		t.Errorf("%s: Holds(%x, %d, %q, %v) = %v", why, seed, height, row, f, got)
	}
}

// Of a leaf that signed nothing all is secret.
func TestHoldsOfEverySecret(t *testing.T) {
	for _, seed := range seeds()[:2] {
		for chain := range 67 {
			for place := range 16 {
				f := secret(seed, chain%4, chain, place)
				for _, row := range [][][]byte{nil, at(chain%4, nil), at(chain%4, []byte{}), at(chain%4, nil)[:chain%4]} {
					holdHolds(t, "nothing was signed", seed, 2, row, f, true)
				}
			}
		}
	}
	for height := range 5 {
		for leaf := range 1 << height {
			holdHolds(t, "each leaf", rising(), height, nil, secret(rising(), leaf, 66, 15), true)
			holdHolds(t, "each leaf", rising(), height, slices.Repeat([][]byte{[]byte("a")}, leaf), secret(rising(), leaf, 0, 0), true)
		}
	}
}

// Of one that signed a message all is secret that is below its digits.
func TestHoldsOfWhatWasGivenOut(t *testing.T) {
	found := map[int]int{}
	for n, m := range messages()[2:] {
		leaf := n % 4
		for chain, digit := range digitsOf(m) {
			found[digit]++
			for place := range 16 {
				f := secret(rising(), leaf, chain, place)
				holdHolds(t, "a message was signed", rising(), 2, at(leaf, m), f, place < digit)
				holdHolds(t, "a message was signed, and others behind it", rising(), 2, append(at(leaf, m), m, nil), f, place < digit)
			}
		}
	}
	for digit := range 16 {
		if found[digit] == 0 {
			t.Errorf("no message has the digit %d", digit)
		}
	}
	for height := range 5 {
		m := []byte("message")
		for leaf := range 1 << height {
			for chain, digit := range digitsOf(m)[:8] {
				holdHolds(t, "given out", rising(), height, at(leaf, m), secret(rising(), leaf, chain, digit), false)
				holdHolds(t, "the end, given out", rising(), height, at(leaf, m), secret(rising(), leaf, chain, 15), false)
			}
		}
	}
	// What other leaves signed is of no weight.
	for chain := range 67 {
		row := slices.Repeat([][]byte{[]byte("message")}, 4)
		row[2] = nil
		holdHolds(t, "others signed", rising(), 2, row, secret(rising(), 2, chain, 15), true)
	}
}

func TestHoldsOfAnotherValue(t *testing.T) {
	for chain := range 67 {
		place := chain % 16
		hold := func(why string, change func(*mss.Forge)) {
			t.Helper()
			f := secret(rising(), 1, chain, place)
			change(&f)
			holdHolds(t, why, rising(), 1, nil, f, false)
		}
		hold("turned", func(f *mss.Forge) { f.Value = turned(f.Value, chain) })
		hold("noughts", func(f *mss.Forge) { f.Value = api.Hash{} })
		hold("a place more", func(f *mss.Forge) { f.Place++ })
		hold("a place less", func(f *mss.Forge) { f.Place-- })
		hold("another chain", func(f *mss.Forge) { f.Chain = (f.Chain + 1) % 67 })
		hold("another leaf", func(f *mss.Forge) { f.Leaf = 0 })
		hold("a step further", func(f *mss.Forge) { f.Value = walked(f.Value, 1) })
		hold("no leak", func(f *mss.Forge) { f.Leak = false })
		hold("no leak, but texts", func(f *mss.Forge) { f.Leak, f.Break = false, api.Break{A: []byte("a"), B: []byte("b")} })
		holdHolds(t, "another seed", api.Key{}, 1, nil, secret(rising(), 1, chain, place), false)
	}
}

// Outside of their ranges nothing holds, though the value be such as it would be there.
func TestHoldsOutside(t *testing.T) {
	far := []int{-1, -2, -16, -67, -256, -1 << 31, -1 << 32, math.MinInt + 1, math.MinInt, 256, 1 << 16, 1 << 31, 1 << 32, 1 << 62, math.MaxInt - 1, math.MaxInt}
	message := slices.Repeat([][]byte{[]byte("message")}, 40)
	for _, row := range [][][]byte{nil, at(0, nil), message} {
		for height := range 5 {
			count := 1 << height
			for _, leaf := range append(far, -count, count, count+1, 2*count) {
				f := secret(rising(), max(leaf, 0), 0, 0)
				f.Leaf = leaf
				holdHolds(t, "no leaf", rising(), height, row, f, false)
			}
		}
		for _, chain := range append(far, 67, 68, 128, 255) {
			f := secret(rising(), 0, max(chain, 0), 0)
			f.Chain = chain
			holdHolds(t, "no chain", rising(), 1, row, f, false)
		}
		for _, place := range append(far, 16, 17, 31, 32) {
			f := secret(rising(), 0, 0, min(max(place, 0), 15))
			f.Place = place
			holdHolds(t, "no place", rising(), 1, row, f, false)
		}
	}
}

func TestHoldsOfNoHeight(t *testing.T) {
	for _, height := range noHeights() {
		for _, leaf := range []int{-1, 0, 1, 15, 16} {
			f := secret(rising(), max(leaf, 0), 0, 0)
			f.Leaf = leaf
			holdHolds(t, "no height", rising(), height, nil, f, false)
			holdHolds(t, "no height", rising(), height, slices.Repeat([][]byte{[]byte("message")}, 40), f, false)
		}
		holdHolds(t, "no height", rising(), height, nil, mss.Forge{}, false)
	}
}

// What is no break holds by nothing but a leak.
func TestHoldsOfNoBreak(t *testing.T) {
	a, b := []byte("a"), []byte("b")
	for _, none := range []api.Break{{}, {A: a}, {B: a}, {A: a, B: b}, {A: a, B: slices.Clone(a)}, {A: []byte{}, B: nil}, {A: a, B: []byte("ab")}, {A: mixed(100), B: mixed(101)}} {
		for height := range 5 {
			holdHolds(t, "no break", rising(), height, nil, mss.Forge{Break: none}, false)
			holdHolds(t, "no break, and no leak", rising(), height, nil, mss.Forge{Break: none, Leak: true}, false)
		}
		f := secret(rising(), 0, 3, 3)
		f.Break = none
		holdHolds(t, "no break, but a leak", rising(), 0, nil, f, true)
	}
}

// P9.5: of every right signature, either the leaf signed it or it is explained, and that holds.
func TestWhatIsVerified(t *testing.T) {
	all := messages()[2:8]
	for leaf, own := range all[:4] {
		row := slices.Clone(all[:leaf+1])
		fp, _ := mss.Print(rising(), 2)
		for _, m := range all {
			s, _ := mss.Sign(rising(), 2, leaf, m)
			if !mss.Verify(fp, m, s) {
				t.Fatalf("leaf %d of %q is not verified", leaf, m)
			}
			if bytes.Equal(own, m) {
				holdUnexplained(t, "signed", rising(), 2, row, m, s)
			} else {
				holdLeak(t, "not signed", rising(), 2, row, own, m, s)
			}
		}
	}
}
