package caps_test

import (
	"testing"

	"aumbry/api"
	"aumbry/caps"
)

// P13.1

func isValid(t *testing.T, c api.Cap, want bool) {
	t.Helper()
	if got := caps.Valid(c); got != want {
		t.Errorf("Valid of %s = %v", show(c), got)
	}
}

func TestValidOfEachKind(t *testing.T) {
	for _, c := range allValid() {
		isValid(t, c, true)
	}
	for _, c := range allWrong() {
		isValid(t, c, false)
	}
}

// Each K and N about what they may be.
func TestValidOfSharesOfFiles(t *testing.T) {
	for _, kind := range []int{api.FileRead, api.FileVerify} {
		for k := -3; k <= 20; k++ {
			for n := -3; n <= 20; n++ {
				c := sample(kind)
				c.K, c.N = k, n
				isValid(t, c, 1 <= k && k <= n && n <= 16)
			}
		}
	}
}

func TestValidOfSizesOfFiles(t *testing.T) {
	for _, kind := range []int{api.FileRead, api.FileVerify} {
		for size := -5; size <= 1100; size++ {
			c := sample(kind)
			c.Size = size
			isValid(t, c, 1 <= size && size <= 1024)
		}
	}
}

func TestValidOfLengthsOfLiterals(t *testing.T) {
	for length := range 200 {
		isValid(t, api.Cap{Kind: api.Literal, Lit: bytesOf(length)}, length <= 64)
	}
	isValid(t, api.Cap{Kind: api.Literal, Lit: nil}, true)
	isValid(t, api.Cap{Kind: api.Literal, Lit: []byte{}}, true)
}

// What one kind needs, no other form of kind may have.
func TestValidOfOtherKindsFields(t *testing.T) {
	for _, r := range rules {
		for _, other := range rules {
			c := sample(other.kind)
			c.Kind = r.kind
			isValid(t, c, r.form == other.form)
		}
	}
}

// A capability without anything but its kind.
func TestValidOfKindsAlone(t *testing.T) {
	for kind := -20; kind <= 300; kind++ {
		isValid(t, api.Cap{Kind: kind}, kind >= api.Literal && kind <= api.DirVerify)
	}
}
