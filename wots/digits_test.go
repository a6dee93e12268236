package wots

import (
	"bytes"
	"encoding/hex"
	"math/rand"
	"slices"
	"strconv"
	"testing"

	"aumbry/api"
)

// A message's hash is what it is: a hash whose checksum is very great or very small, or one that is like another one in all but one digit, can't be found for any message. So these tests hand the hashes in.

// laid is a hash's digits, made by another maker: a hexadecimal text, and the checksum as another one.
func laid(t *testing.T, hash api.Hash) []int {
	t.Helper()
	text := hex.EncodeToString(hash[:])
	lack := 0
	for _, letter := range text {
		lack += 15 - value(t, letter)
	}
	text += strconv.FormatInt(4096+int64(lack), 16)[1:]
	var digits []int
	for _, letter := range text {
		digits = append(digits, value(t, letter))
	}
	return digits
}

// value is what a hexadecimal letter stands for.
func value(t *testing.T, letter rune) int {
	t.Helper()
	n, err := strconv.ParseUint(string(letter), 16, 8)
	if err != nil {
		t.Fatal(err)
	}
	return int(n)
}

// hashFrom is the hash that has 64 digits.
func hashFrom(digits []int) api.Hash {
	var hash api.Hash
	for i := range hash {
		hash[i] = byte(16*digits[2*i] + digits[2*i+1])
	}
	return hash
}

// holdDigits holds a hash's digits.
func holdDigits(t *testing.T, hash api.Hash) []int {
	t.Helper()
	got := digitsOf(hash)
	if want := laid(t, hash); !slices.Equal(got, want) {
		t.Errorf("digits of %x = %d, want %d", hash, got, want)
	}
	return got
}

// holdBoth holds that each of two rows has a digit that is less than the other one's.
func holdBoth(t *testing.T, a, b []int) {
	t.Helper()
	if !lessSomewhere(a, b) || !lessSomewhere(b, a) {
		t.Errorf("one of these has no digit below the other one's: %d, %d", a, b)
	}
}

func lessSomewhere(a, b []int) bool {
	for i := range a {
		if a[i] < b[i] {
			return true
		}
	}
	return false
}

// mixedHash is a hash far from any rule.
func mixedHash(r *rand.Rand) api.Hash {
	var hash api.Hash
	r.Read(hash[:])
	return hash
}

func TestDigitsOfKnownHashes(t *testing.T) {
	rising := slices.Repeat([]int{0, 1, 2, 3, 4, 5, 6, 7, 8, 9, 10, 11, 12, 13, 14, 15}, 4)
	for _, r := range []struct {
		name     string
		digits   []int
		checksum []int
	}{
		{"noughts", make([]int, 64), []int{3, 12, 0}},
		{"fifteens", slices.Repeat([]int{15}, 64), []int{0, 0, 0}},
		{"ones", slices.Repeat([]int{1}, 64), []int{3, 8, 0}},
		{"fourteens", slices.Repeat([]int{14}, 64), []int{0, 4, 0}},
		{"rising ones", rising, []int{1, 14, 0}},
		{"first halves", slices.Repeat([]int{15, 0}, 32), []int{1, 14, 0}},
		{"second halves", slices.Repeat([]int{0, 15}, 32), []int{1, 14, 0}},
		{"a nought first", append([]int{0}, slices.Repeat([]int{15}, 63)...), []int{0, 0, 15}},
		{"a fifteen last", append(make([]int, 63), 15), []int{3, 11, 1}},
	} {
		want := slices.Concat(r.digits, r.checksum)
		if got := digitsOf(hashFrom(r.digits)); !slices.Equal(got, want) {
			t.Errorf("digits of %s = %d, want %d", r.name, got, want)
		}
	}
}

// Every checksum there is: what the digits lack grows by one, and one, from nothing to all.
func TestDigitsOfEveryChecksum(t *testing.T) {
	found := map[int]int{}
	digits := slices.Repeat([]int{15}, 64)
	for lack := range 961 {
		got := holdDigits(t, hashFrom(digits))
		if !slices.Equal(got[:64], digits) || 256*got[64]+16*got[65]+got[66] != lack {
			t.Errorf("digits of %d, which lack %d: %d", digits, lack, got)
		}
		found[got[64]]++
		digits[lack*37%64] = max(digits[lack*37%64]-1, 0)
	}
	if found[0] != 256 || found[1] != 256 || found[2] != 256 || found[3] != 193 {
		t.Errorf("checksums by their greatest digit: %v", found)
	}
}

// Every digit in every place.
func TestDigitsInEveryPlace(t *testing.T) {
	r := rand.New(rand.NewSource(1))
	for at := range 64 {
		digits := laid(t, mixedHash(r))[:64]
		for digit := range 16 {
			digits[at] = digit
			if got := holdDigits(t, hashFrom(digits)); len(got) != api.Chains || got[at] != digit {
				t.Errorf("digit %d at %d: %d", digit, at, got)
			}
		}
	}
}

func TestDigitsOfManyHashes(t *testing.T) {
	r := rand.New(rand.NewSource(2))
	for range 5000 {
		holdDigits(t, mixedHash(r))
	}
}

// P8.3: hashes that are alike in all but one digit.
func TestBothAreLessInOneDigit(t *testing.T) {
	r := rand.New(rand.NewSource(3))
	hashes := []api.Hash{{}, api.Hash(bytes.Repeat([]byte{255}, 32)), mixedHash(r), mixedHash(r)}
	for _, hash := range hashes {
		digits := laid(t, hash)[:64]
		for at := range digits {
			for digit := range 16 {
				other := slices.Clone(digits)
				other[at] = digit
				if digit != digits[at] {
					holdBoth(t, digitsOf(hash), digitsOf(hashFrom(other)))
				}
			}
		}
	}
}

// P8.3: hashes of which one has no digit below the other one's: then it is the checksum that has one.
func TestBothAreLessInTheChecksum(t *testing.T) {
	r := rand.New(rand.NewSource(4))
	for range 5000 {
		digits := laid(t, mixedHash(r))[:64]
		other := slices.Clone(digits)
		for range 1 + r.Intn(64) {
			at := r.Intn(64)
			other[at] += r.Intn(16 - other[at])
		}
		if !slices.Equal(digits, other) {
			holdBoth(t, digitsOf(hashFrom(digits)), digitsOf(hashFrom(other)))
		}
	}
}

// P8.3: hashes of any kind, and those of which one has its digits in another order, so that they have one checksum.
func TestBothAreLessInManyHashes(t *testing.T) {
	r := rand.New(rand.NewSource(5))
	for range 3000 {
		a, b := mixedHash(r), mixedHash(r)
		holdBoth(t, digitsOf(a), digitsOf(b))
		digits := laid(t, a)[:64]
		i, j := r.Intn(64), r.Intn(64)
		if digits[i] != digits[j] {
			digits[i], digits[j] = digits[j], digits[i]
			holdBoth(t, digitsOf(a), digitsOf(hashFrom(digits)))
		}
	}
}
