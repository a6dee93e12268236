package gf_test

import (
	"bytes"
	"math"
	"testing"

	"aumbry/api"
	"aumbry/gf"
)

// otherMul is another maker of the product: as polynomials multiplied at length, then divided by the field's own.
func otherMul(a, b byte) byte {
	long := 0
	for i := range 8 {
		for j := range 8 {
			long ^= int(a>>i&1) * int(b>>j&1) << (i + j)
		}
	}
	const divisor = 1<<8 | 1<<4 | 1<<3 | 1<<2 | 1
	for i := 14; i >= 8; i-- {
		if long>>i&1 == 1 {
			long ^= divisor << (i - 8)
		}
	}
	return byte(long)
}

// otherPow is another maker of a power: squared for each digit of n, from the greatest on.
func otherPow(a byte, n int) byte {
	power := byte(1)
	for i := 62; i >= 0; i-- {
		power = otherMul(power, power)
		if n > 0 && n>>i&1 == 1 {
			power = otherMul(power, a)
		}
	}
	return power
}

// otherInverse is the byte that a times which is 1, sought; of 0: 0.
func otherInverse(a byte) byte {
	for b := range 256 {
		if otherMul(a, byte(b)) == 1 {
			return byte(b)
		}
	}
	return 0
}

// otherDot is another maker of the sum of products.
func otherDot(a, b []byte) byte {
	var sum byte
	for i := 0; i < len(a) && i < len(b); i++ {
		sum ^= otherMul(a[i], b[i])
	}
	return sum
}

// eachPair hands out every two bytes, till ok says no.
func eachPair(ok func(a, b byte) bool) {
	for a := range 256 {
		for b := range 256 {
			if !ok(byte(a), byte(b)) {
				return
			}
		}
	}
}

// mixed hands out n bytes far from any rule, others for another seed.
func mixed(n, seed int) []byte {
	b := make([]byte, n)
	for i := range b {
		b[i] = byte(i*i*31 + i*7 + i>>8 + seed*59 + 3)
	}
	return b
}

// within hands out a list with more memory behind its length, and that memory.
func within(s string) (list, behind []byte) {
	b := []byte(s + "????????????????????????????????????????")
	return b[:len(s)], b[len(s):]
}

// untouched says whether the list and what is behind it are as within made them.
func untouched(s string, list, behind []byte) bool {
	return string(list) == s && string(behind) == "????????????????????????????????????????"
}

// spoil writes over a list and over what its memory has behind it.
func spoil(b []byte) {
	b = b[:cap(b)]
	for i := range b {
		b[i] = '#'
	}
}

// P4.1: Add

func TestAddOfEveryTwo(t *testing.T) {
	eachPair(func(a, b byte) bool {
		// Polynomials modulo 2 are added digit by digit, and nothing is carried.
		var want byte
		for i := range 8 {
			want |= (a>>i + b>>i) & 1 << i
		}
		if got := gf.Add(a, b); got != want {
			t.Errorf("Add(%d, %d) = %d, want %d", a, b, got, want)
			return false
		}
		return true
	})
}

// P4.1: Mul, the method and the function

// The powers of x that books on this field list, and the chapter's example.
func TestMulOfKnown(t *testing.T) {
	f := gf.New()
	known := []byte{
		1, 2, 4, 8, 16, 32, 64, 128, 29, 58, 116, 232, 205, 135, 19, 38,
		76, 152, 45, 90, 180, 117, 234, 201, 143, 3, 6, 12, 24, 48, 96, 192,
	}
	for i := 1; i < len(known); i++ {
		if got := f.Mul(2, known[i-1]); got != known[i] {
			t.Errorf("the method: Mul(2, %d) = %d, want %d", known[i-1], got, known[i])
		}
		if got := gf.Mul(2, known[i-1]); got != known[i] {
			t.Errorf("the function: Mul(2, %d) = %d, want %d", known[i-1], got, known[i])
		}
		if got := f.Pow(2, i); got != known[i] {
			t.Errorf("Pow(2, %d) = %d, want %d", i, got, known[i])
		}
	}
	if got := gf.Mul(2, 128); got != 29 {
		t.Errorf("Mul(2, 128) = %d, want 29", got)
	}
}

// Every two bytes, by each way to call a product.
func TestMulOfEveryTwo(t *testing.T) {
	f := gf.New()
	value, expression := f.Mul, (*gf.Field).Mul
	for _, r := range []struct {
		name string
		mul  func(a, b byte) byte
	}{
		{"method", func(a, b byte) byte { return f.Mul(a, b) }},
		{"method value", value},
		{"method expression", func(a, b byte) byte { return expression(f, a, b) }},
		{"function", gf.Mul},
	} {
		eachPair(func(a, b byte) bool {
			if got, want := r.mul(a, b), otherMul(a, b); got != want {
				t.Errorf("%s: Mul(%d, %d) = %d, want %d", r.name, a, b, got, want)
				return false
			}
			return true
		})
	}
}

// P4.1: Inv

func TestInvOfEachByte(t *testing.T) {
	f := gf.New()
	value, expression := f.Inv, (*gf.Field).Inv
	for i := range 256 {
		a := byte(i)
		want := otherInverse(a)
		if got := f.Inv(a); got != want {
			t.Errorf("Inv(%d) = %d, want %d", a, got, want)
		}
		if got := value(a); got != want {
			t.Errorf("Inv(%d) as a method value = %d, want %d", a, got, want)
		}
		if got := expression(f, a); got != want {
			t.Errorf("Inv(%d) as a method expression = %d, want %d", a, got, want)
		}
	}
	if got := f.Inv(0); got != 0 {
		t.Errorf("Inv(0) = %d, want 0", got)
	}
}

// P4.1: Div

// The quotient is what times the divisor is a: there is just one, as the divisor has an inverse.
func TestDivOfEveryTwo(t *testing.T) {
	f := gf.New()
	value, expression := f.Div, (*gf.Field).Div
	eachPair(func(a, b byte) bool {
		if b == 0 {
			return true
		}
		got, err := f.Div(a, b)
		if err != api.OK || otherMul(got, b) != a {
			t.Errorf("Div(%d, %d) = %d, %d", a, b, got, err)
			return false
		}
		if again, err := value(a, b); again != got || err != api.OK {
			t.Errorf("Div(%d, %d) as a method value = %d, %d, want %d", a, b, again, err, got)
			return false
		}
		if again, err := expression(f, a, b); again != got || err != api.OK {
			t.Errorf("Div(%d, %d) as a method expression = %d, %d, want %d", a, b, again, err, got)
			return false
		}
		return true
	})
}

func TestDivByNought(t *testing.T) {
	f := gf.New()
	for a := range 256 {
		if got, err := f.Div(byte(a), 0); got != 0 || err != api.ErrArg {
			t.Errorf("Div(%d, 0) = %d, %d, want 0, ErrArg", a, got, err)
		}
	}
	// A quotient that was refused leaves the next one as it is.
	if got, err := f.Div(29, 128); got != 2 || err != api.OK {
		t.Errorf("Div(29, 128) = %d, %d, want 2", got, err)
	}
}

// P4.1: Pow

// Exponents one by one, up to some times the 255 at which the powers come round: each power is the one before it, times the byte.
func TestPowOneByOne(t *testing.T) {
	f := gf.New()
	for i := range 256 {
		a, want := byte(i), byte(1)
		for n := range 5*255 + 3 {
			if got := f.Pow(a, n); got != want {
				t.Fatalf("Pow(%d, %d) = %d, want %d", a, n, got, want)
			}
			want = otherMul(want, a)
		}
	}
}

// An exponent below 0 is 0, and to the 0 every byte is 1, 0 among them.
func TestPowOfNoExponent(t *testing.T) {
	f := gf.New()
	for a := range 256 {
		for _, n := range []int{0, -1, -2, -254, -255, -256, -510, -1 << 31, math.MinInt + 1, math.MinInt} {
			if got := f.Pow(byte(a), n); got != 1 {
				t.Errorf("Pow(%d, %d) = %d, want 1", a, n, got)
			}
		}
	}
}

func TestPowOfGreatExponents(t *testing.T) {
	f := gf.New()
	expression := (*gf.Field).Pow
	greatest := math.MaxInt / 255 * 255
	edges := []int{1, 2, 255, 256, 65535, 65536, 255 * 255, 255 * 256, 1 << 31, 1 << 32, 1 << 53, 1 << 55, 1 << 56, 1 << 62, greatest, greatest - 255, math.MaxInt - 2}
	for i := range 256 {
		a := byte(i)
		for _, edge := range edges {
			for n := edge - 1; n <= edge+2 && n > 0; n++ {
				want := otherPow(a, n)
				if got := f.Pow(a, n); got != want {
					t.Fatalf("Pow(%d, %d) = %d, want %d", a, n, got, want)
				}
				if got := expression(f, a, n); got != want {
					t.Fatalf("Pow(%d, %d) as a method expression = %d, want %d", a, n, got, want)
				}
			}
		}
		if got, want := f.Pow(a, math.MaxInt), otherPow(a, math.MaxInt); got != want {
			t.Errorf("Pow(%d, MaxInt) = %d, want %d", a, got, want)
		}
	}
}

// P4.1: Dot

// Every two bytes alone, and each two of them beside others.
func TestDotOfEveryTwo(t *testing.T) {
	f := gf.New()
	eachPair(func(a, b byte) bool {
		if got, want := f.Dot([]byte{a}, []byte{b}), otherMul(a, b); got != want {
			t.Errorf("Dot([%d], [%d]) = %d, want %d", a, b, got, want)
			return false
		}
		l, m := []byte{a, b, 7}, []byte{b, 200, a}
		if got, want := f.Dot(l, m), otherDot(l, m); got != want {
			t.Errorf("Dot(%d, %d) = %d, want %d", l, m, got, want)
			return false
		}
		return true
	})
}

// Lists of all lengths beside one another: nothing counts that only one of them has.
func TestDotOfUnlikeLengths(t *testing.T) {
	f := gf.New()
	value, expression := f.Dot, (*gf.Field).Dot
	a, b := mixed(40, 1), mixed(40, 2)
	for n := range len(a) + 1 {
		for m := range len(b) + 1 {
			want := otherDot(a[:n], b[:m])
			if got := f.Dot(a[:n], b[:m]); got != want {
				t.Fatalf("Dot of %d and %d bytes = %d, want %d", n, m, got, want)
			}
			if got := value(a[:n], b[:m]); got != want {
				t.Fatalf("Dot of %d and %d bytes as a method value = %d, want %d", n, m, got, want)
			}
			if got := expression(f, a[:n], b[:m]); got != want {
				t.Fatalf("Dot of %d and %d bytes as a method expression = %d, want %d", n, m, got, want)
			}
		}
	}
}

func TestDotOfNothing(t *testing.T) {
	f := gf.New()
	full := mixed(20, 3)
	for _, r := range []struct{ a, b []byte }{
		{nil, nil}, {nil, []byte{}}, {[]byte{}, nil}, {[]byte{}, []byte{}},
		{nil, full}, {full, nil}, {[]byte{}, full}, {full, []byte{}},
		{make([]byte, 20), full}, {full, make([]byte, 20)},
	} {
		if got := f.Dot(r.a, r.b); got != 0 {
			t.Errorf("Dot(%d, %d) = %d, want 0", r.a, r.b, got)
		}
	}
}

func TestDotOfManyBytes(t *testing.T) {
	f := gf.New()
	for _, n := range []int{255, 256, 257, api.MaxData, api.MaxBytes, 1<<16 + 1} {
		a, b := mixed(n, 4), mixed(n+3, 5)
		if got, want := f.Dot(a, b), otherDot(a, b); got != want {
			t.Errorf("Dot of %d bytes = %d, want %d", n, got, want)
		}
		if got, want := f.Dot(a, a), otherDot(a, a); got != want {
			t.Errorf("Dot of %d bytes and themselves = %d, want %d", n, got, want)
		}
		if got, want := f.Dot(a[1:], a), otherDot(a[1:], a); got != want {
			t.Errorf("Dot of %d bytes and those one place on = %d, want %d", n, got, want)
		}
	}
}

// What is handed in is neither changed nor kept, and what lies behind it is neither read nor written.
func TestDotMemory(t *testing.T) {
	f := gf.New()
	for _, n := range []int{0, 1, 5, 16, 17, 100} {
		for _, m := range []int{0, 1, 5, 16, 17, 100} {
			first, second := string(mixed(n, 6)), string(mixed(m, 7))
			want := otherDot([]byte(first), []byte(second))
			a, behindA := within(first)
			b, behindB := within(second)
			if got := f.Dot(a, b); got != want || !untouched(first, a, behindA) || !untouched(second, b, behindB) {
				t.Errorf("Dot of %d and %d bytes = %d, want %d, or what was handed in is changed", n, m, got, want)
			}
			spoil(a)
			spoil(b)
			if got := f.Dot([]byte(first), []byte(second)); got != want {
				t.Errorf("Dot of %d and %d bytes = %d when the lists before are written over, want %d", n, m, got, want)
			}
			c, _ := within(first)
			spoil(c)
			if got, want := f.Dot(c[:n], []byte(second)), otherDot(bytes.Repeat([]byte{'#'}, n), []byte(second)); got != want {
				t.Errorf("Dot of %d bytes # and %d bytes = %d, want %d", n, m, got, want)
			}
		}
	}
}

// P4.1: New

// isField says whether all that f answers is the field's, held against the other makers.
func isField(f *gf.Field) bool {
	good := true
	eachPair(func(a, b byte) bool {
		good = f.Mul(a, b) == otherMul(a, b)
		return good
	})
	for a := range 256 {
		n := a * 3
		inverse := otherInverse(byte(a))
		one, err := f.Div(1, byte(a))
		good = good && f.Inv(byte(a)) == inverse && one == inverse && (err == api.OK) == (a != 0)
		good = good && f.Pow(byte(a), n) == otherPow(byte(a), n)
	}
	l, m := mixed(30, 8), mixed(33, 9)
	return good && f.Dot(l, m) == otherDot(l, m)
}

// Two objects do not touch one another: one that is written over leaves the other, and those made behind it, as they are.
func TestNewTwice(t *testing.T) {
	first, second := gf.New(), gf.New()
	if first == nil || second == nil || first == second {
		t.Fatal("New hands out no objects of their own")
	}
	mul, inv, dot := second.Mul, second.Inv, second.Dot
	if !isField(first) || !isField(second) {
		t.Error("two objects, and one is no field")
	}
	*first = gf.Field{}
	if !isField(second) {
		t.Error("an object is no field any more when another one is written over")
	}
	if mul(2, 128) != 29 || inv(2) != 142 || dot([]byte{2, 3}, []byte{128, 1}) != 30 {
		t.Error("an object's methods hang on another object")
	}
	if !isField(gf.New()) {
		t.Error("an object hangs on one that was made before")
	}
}

// What is asked between hangs on nothing that was asked before.
func TestFieldAgain(t *testing.T) {
	f := gf.New()
	for range 3 {
		f.Div(5, 0)
		f.Inv(0)
		f.Pow(0, -1)
		f.Dot(nil, mixed(9, 9))
		gf.Mul(0, 0)
		if !isField(f) {
			t.Fatal("a field is none any more when it has been asked")
		}
	}
}
