package wots_test

import (
	"bytes"
	"math/rand"
	"slices"
	"strconv"
	"testing"

	"aumbry/api"
	"aumbry/wots"
)

// P8.2: Ends, Recover

// holdEnds holds Ends and Recover of values of any kind: each goes its own steps, and none more.
func holdEnds(t *testing.T, m []byte, l []api.Hash) []api.Hash {
	t.Helper()
	var want []api.Hash
	for chain, digit := range digitsOf(m) {
		want = append(want, walked(l[chain], 15-digit))
	}
	got, ok := wots.Ends(m, l)
	if !ok || !slices.Equal(got, want) {
		t.Fatalf("Ends(%d bytes, %x) = %x, %v, want %x", len(m), l, got, ok, want)
	}
	if public, ok := wots.Recover(m, l); !ok || public != publicOf(want) {
		t.Errorf("Recover(%d bytes, %x) = %x, %v, want %x", len(m), l, public, ok, publicOf(want))
	}
	return got
}

// holdRight holds that values are a leaf's signature of m.
func holdRight(t *testing.T, seed api.Key, leaf numbered, m []byte, l []api.Hash) {
	t.Helper()
	if got, want := holdEnds(t, m, l), endsOf(seed, leaf.four); !slices.Equal(got, want) {
		t.Errorf("Ends(%d bytes, %x) = %x, want all ends of leaf %d: %x", len(m), l, got, leaf.n, want)
	}
	if got, ok := wots.Recover(m, l); !ok || got != wots.Public(seed, leaf.n) {
		t.Errorf("Recover(%d bytes, %x) = %x, %v, want the Public of leaf %d", len(m), l, got, ok, leaf.n)
	}
}

// P8.3: Recover of Sign is Public.
func TestRecoverOfSign(t *testing.T) {
	for _, m := range messages() {
		holdRight(t, rising(), numbered{5, 5}, m, wots.Sign(rising(), 5, m))
	}
	for _, seed := range keys() {
		for leaf := range 4 {
			holdRight(t, seed, numbered{leaf, uint32(leaf)}, []byte("message"), wots.Sign(seed, leaf, []byte("message")))
		}
	}
	for _, leaf := range numbers() {
		holdRight(t, rising(), leaf, []byte("message"), wots.Sign(rising(), leaf.n, []byte("message")))
	}
	for n := range 200 {
		holdRight(t, api.Key{}, numbered{0, 0}, mixed(n), wots.Sign(api.Key{}, 0, mixed(n)))
	}
}

func TestEndsOfAnyValues(t *testing.T) {
	for i, m := range messages() {
		for _, l := range [][]api.Hash{
			row(67, i),
			make([]api.Hash, 67),
			slices.Repeat(row(1, i), 67),
			endsOf(rising(), 1),
			valuesOf(rising(), 1, make([]int, 67)),
		} {
			holdEnds(t, m, l)
		}
	}
}

// Of unlike leaves, seeds and messages no signature is another one's.
func TestRecoverOfAnotherSignature(t *testing.T) {
	m := []byte("message")
	public := wots.Public(rising(), 2)
	turned := rising()
	turned[15] ^= 1
	for _, l := range [][]api.Hash{
		wots.Sign(rising(), 3, m),
		wots.Sign(turned, 2, m),
		wots.Sign(rising(), 2, []byte("another")),
		wots.Sign(rising(), 2, nil),
	} {
		if got, ok := wots.Recover(m, l); !ok || got == public {
			t.Errorf("Recover(%q, %x) = %x, %v", m, l, got, ok)
		}
	}
}

// Of another message's signature those ends are right that stand at one digit in both, and no others.
func TestEndsOfAnotherMessage(t *testing.T) {
	ends := endsOf(rising(), 4)
	all := messages()
	for i, a := range all {
		b := all[(i+3)%len(all)]
		first, second := digitsOf(a), digitsOf(b)
		got := holdEnds(t, b, wots.Sign(rising(), 4, a))
		for chain := range got {
			if (got[chain] == ends[chain]) != (first[chain] == second[chain]) {
				t.Errorf("chain %d, signed at %d, asked at %d: %x, the end is %x", chain, first[chain], second[chain], got[chain], ends[chain])
			}
			// A value below the digit that is asked for falls short of the end by just what it is below.
			if short := second[chain] - first[chain]; short > 0 && wots.Along(got[chain], short) != ends[chain] {
				t.Errorf("chain %d, signed at %d, asked at %d: %x does not lead to %x", chain, first[chain], second[chain], got[chain], ends[chain])
			}
		}
	}
}

// messageWith is a message with a digit on a chain; false: none of many has it there.
func messageWith(chain, digit int) ([]byte, bool) {
	for n := range 400 {
		m := []byte("with " + strconv.Itoa(n))
		if digitsOf(m)[chain] == digit {
			return m, true
		}
	}
	return nil, false
}

// A value a step further, or a step back, is right for a digit one greater, or one less, and for no other one.
func TestEndsOfAStepMore(t *testing.T) {
	m := []byte("message")
	digits, ends := digitsOf(m), endsOf(rising(), 6)
	signed := wots.Sign(rising(), 6, m)
	for chain := range digits {
		for _, more := range []int{-1, 1} {
			digit := digits[chain] + more
			if digit < 0 {
				continue
			}
			l := slices.Clone(signed)
			l[chain] = walked(startOf(rising(), 6, uint32(chain)), digit)
			holdMoved(t, m, chain, l, ends)
			holdMovedAtEveryDigit(t, chain, digit, l[chain], ends[chain])
		}
	}
}

// holdMoved holds that a signature with another value on a chain is none: there, and nowhere else, the end is another one.
func holdMoved(t *testing.T, m []byte, chain int, l, ends []api.Hash) {
	t.Helper()
	got := holdEnds(t, m, l)
	for i := range got {
		if (got[i] == ends[i]) != (i != chain) {
			t.Errorf("%x on chain %d instead: chain %d ends with %x, want %x", l[chain], chain, i, got[i], ends[i])
		}
	}
	if public, ok := wots.Recover(m, l); !ok || public == publicOf(ends) {
		t.Errorf("%x on chain %d instead: %x, %v", l[chain], chain, public, ok)
	}
}

// holdMovedAtEveryDigit holds that a value at a digit leads to its chain's end in messages of that digit, and in no others. (A value past the end leads there in none.)
func holdMovedAtEveryDigit(t *testing.T, chain, digit int, value, end api.Hash) {
	t.Helper()
	l := row(67, chain)
	l[chain] = value
	for asked := range 16 {
		m, ok := messageWith(chain, asked)
		if !ok {
			continue
		}
		got := holdEnds(t, m, l)
		if (got[chain] == end) != (asked == digit) {
			t.Errorf("chain %d, %x at %d, asked at %d: %x, the end is %x", chain, value, digit, asked, got[chain], end)
		}
	}
}

// Values in one another's place are other values.
func TestEndsOfValuesInAnotherOrder(t *testing.T) {
	m := []byte("message")
	signed := wots.Sign(rising(), 6, m)
	public := wots.Public(rising(), 6)
	for chain := 1; chain < 67; chain++ {
		l := slices.Clone(signed)
		l[chain-1], l[chain] = l[chain], l[chain-1]
		holdEnds(t, m, l)
		if got, ok := wots.Recover(m, l); !ok || got == public {
			t.Errorf("chains %d and %d in one another's place: %x, %v", chain-1, chain, got, ok)
		}
	}
	back := slices.Clone(signed)
	slices.Reverse(back)
	holdEnds(t, m, back)
}

func TestEndsOfAnotherNumber(t *testing.T) {
	for _, m := range [][]byte{nil, []byte("message"), mixed(100)} {
		signed := wots.Sign(rising(), 6, m)
		for _, n := range []int{0, 1, 2, 3, 32, 64, 65, 66, 68, 69, 70, 128, 134, 256 + 67, 1000, 1<<16 + 67} {
			l := row(n, n)
			copy(l, signed)
			holdNone(t, m, l)
		}
		holdNone(t, m, nil)
		holdNone(t, m, []api.Hash{})
		holdNone(t, m, signed[:66])
		holdNone(t, m, signed[1:])
		holdNone(t, m, append(slices.Clone(signed), api.Hash{}))
		holdNone(t, m, append(slices.Clone(signed), signed...))
	}
}

// holdNone holds false, with nothing beside it.
func holdNone(t *testing.T, m []byte, l []api.Hash) {
	t.Helper()
	if got, ok := wots.Ends(m, l); ok || len(got) != 0 {
		t.Errorf("Ends(%d bytes, %d values) = %x, %v, want false alone", len(m), len(l), got, ok)
	}
	if got, ok := wots.Recover(m, l); ok || got != (api.Hash{}) {
		t.Errorf("Recover(%d bytes, %d values) = %x, %v, want false alone", len(m), len(l), got, ok)
	}
}

// P8.3: of two messages

// lessSomewhere says whether a has a digit that is less than b's.
func lessSomewhere(a, b []int) bool {
	for i := range a {
		if a[i] < b[i] {
			return true
		}
	}
	return false
}

// alike is how many digits of two are one.
func alike(a, b []int) int {
	n := 0
	for i := range a {
		if a[i] == b[i] {
			n++
		}
	}
	return n
}

// Messages of unlike digits: many pairs, and those that are alike in most of what can be found. (Some that are alike in all but one digit can't be; digits_test.go hands in hashes for it.)
func TestEachIsLessSomewhere(t *testing.T) {
	var all [][]int
	for n := range 1500 {
		all = append(all, wots.Digits([]byte("pair "+strconv.Itoa(n))))
	}
	for _, m := range messages()[1:] {
		all = append(all, wots.Digits(m))
	}
	most, sums := 0, 0
	for i, a := range all {
		for _, b := range all[:i] {
			if slices.Equal(a, b) {
				t.Fatalf("two messages have the digits %d", a)
			}
			if !lessSomewhere(a, b) || !lessSomewhere(b, a) {
				t.Errorf("one of these has no digit below the other one's: %d, %d", a, b)
			}
			most = max(most, alike(a, b))
			if slices.Equal(a[64:], b[64:]) {
				sums++
			}
		}
	}
	if most < 15 || sums < 100 {
		t.Errorf("at most %d digits were alike, %d times the checksums", most, sums)
	}
}

// So nobody who has one signature can make another message's by steps ahead alone.
func TestNoSignatureLeadsToAnother(t *testing.T) {
	all := messages()[1:]
	for i, a := range all {
		for _, b := range all[:i] {
			first, second := wots.Digits(a), wots.Digits(b)
			behind := 0
			for chain := range first {
				if first[chain] > second[chain] {
					behind++
				}
			}
			if behind == 0 || behind == 67 {
				t.Errorf("%d and %d bytes: %d digits are greater", len(a), len(b), behind)
			}
		}
	}
}

// Memory

// spoil writes over all that the list's memory has.
func spoil[T int | byte | api.Hash](l []T) {
	clear(l[:cap(l)])
}

func TestMemoryOfMessages(t *testing.T) {
	for _, n := range []int{0, 1, 30, 52, 53, 100} {
		for _, behind := range []string{"????????", "........"} {
			held := slices.Concat(mixed(n), []byte(behind))
			m := held[:n]
			if got, want := wots.Digits(m), digitsOf(mixed(n)); !slices.Equal(got, want) {
				t.Errorf("Digits of %d bytes within others = %d, want %d", n, got, want)
			}
			signed := wots.Sign(rising(), 1, m)
			if want := valuesOf(rising(), 1, digitsOf(mixed(n))); !slices.Equal(signed, want) {
				t.Errorf("Sign of %d bytes within others = %x, want %x", n, signed, want)
			}
			ends, ok := wots.Ends(m, signed)
			if !ok || !slices.Equal(ends, endsOf(rising(), 1)) {
				t.Errorf("Ends of %d bytes within others = %x, %v", n, ends, ok)
			}
			if got, ok := wots.Recover(m, signed); !ok || got != publicOf(endsOf(rising(), 1)) {
				t.Errorf("Recover of %d bytes within others = %x, %v", n, got, ok)
			}
			wots.Ends(m, nil)
			wots.Recover(m, signed[1:])
			if !bytes.Equal(held, slices.Concat(mixed(n), []byte(behind))) {
				t.Errorf("%d bytes within others are changed", n)
			}
		}
	}
}

func TestMemoryOfValues(t *testing.T) {
	m := []byte("message")
	for _, n := range []int{0, 66, 67, 68} {
		for seed := range 2 {
			behind := row(70, -seed-1)
			held := slices.Concat(row(n, 1), behind)
			l := held[:n]
			if n == 67 {
				holdEnds(t, m, l)
			} else {
				holdNone(t, m, l)
			}
			if !slices.Equal(held, slices.Concat(row(n, 1), behind)) {
				t.Errorf("%d values within others are changed", n)
			}
		}
	}
}

// What is handed out is nobody else's: neither what was handed in, nor what was handed out before.
func TestMemoryOfAnswers(t *testing.T) {
	m := []byte("message")
	digits, signed := digitsOf(m), valuesOf(rising(), 1, digitsOf(m))
	for range 2 {
		first := wots.Digits(m)
		second := wots.Digits(m)
		spoil(first)
		if !slices.Equal(second, digits) || string(m) != "message" {
			t.Errorf("Digits lie in what was handed out or in before: %d", second)
		}
		one := wots.Sign(rising(), 1, m)
		two := wots.Sign(rising(), 1, m)
		spoil(one)
		if !slices.Equal(two, signed) || string(m) != "message" {
			t.Errorf("Sign lies in what was handed out or in before: %x", two)
		}
	}
}

func TestMemoryOfEnds(t *testing.T) {
	m := []byte("message")
	// All ends, where no value has any way to go, are new memory as well.
	for _, l := range [][]api.Hash{wots.Sign(rising(), 1, m), endsOf(rising(), 1), make([]api.Hash, 67)} {
		was := slices.Clone(l)
		want := holdEnds(t, m, l)
		first, _ := wots.Ends(m, l)
		second, _ := wots.Ends(m, l)
		spoil(first)
		if !slices.Equal(l, was) || !slices.Equal(second, want) {
			t.Errorf("Ends lie in what was handed in, or handed out before: %x", second)
		}
		public, _ := wots.Recover(m, l)
		spoil(l)
		if !slices.Equal(second, want) || public != publicOf(want) {
			t.Errorf("Ends hang on what was handed in: %x", second)
		}
	}
}

// What is handed in is not kept: another call with the same memory, written over, is another call.
func TestNothingIsKept(t *testing.T) {
	r := rand.New(rand.NewSource(1))
	m, l := make([]byte, 40), make([]api.Hash, 67)
	for range 20 {
		r.Read(m)
		for i := range l {
			r.Read(l[i][:])
		}
		holdDigits(t, m)
		holdSign(t, rising(), numbered{9, 9}, m)
		holdEnds(t, m, l)
	}
}
