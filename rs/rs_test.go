package rs_test

import (
	"bytes"
	"math"
	"slices"
	"testing"

	"aumbry/api"
	"aumbry/rs"
)

const most = 16 // shares at most

// maker is another maker of all answers, without a matrix: a column of a segment's bytes is a polynomial's values at 0, 1, .. k-1, and share i has its value at i.
type maker struct{ products, quotients [256][256]byte }

// newMaker multiplies every two bytes as polynomials, at length, and divides by the field's own.
func newMaker() *maker {
	const divisor = 1<<8 | 1<<4 | 1<<3 | 1<<2 | 1
	m := new(maker)
	for a := range 256 {
		for b := range 256 {
			long := 0
			for i := range 8 {
				long ^= a << i * (b >> i & 1)
			}
			for i := 14; i >= 8; i-- {
				long ^= divisor << (i - 8) * (long >> i & 1)
			}
			m.products[a][b] = byte(long)
			m.quotients[long][b] = byte(a)
		}
	}
	return m
}

// weight is what the value at places[j] has in the value at x, of the polynomial through all places.
func (m *maker) weight(places []int, j, x int) byte {
	above, below := byte(1), byte(1)
	for i, place := range places {
		if i != j {
			above = m.products[above][byte(x^place)]
			below = m.products[below][byte(places[j]^place)]
		}
	}
	return m.quotients[above][below]
}

// values are the values at each x, column by column, of the polynomials that have those lists at those places.
func (m *maker) values(places []int, lists [][]byte, xs []int) [][]byte {
	all := make([][]byte, len(xs))
	for i, x := range xs {
		all[i] = make([]byte, len(lists[0]))
		for j := range places {
			weight := m.weight(places, j, x)
			for column := range all[i] {
				all[i][column] ^= m.products[weight][lists[j][column]]
			}
		}
	}
	return all
}

// matrix is row by row what each piece has in a share.
func (m *maker) matrix(k, n int) [][]byte {
	rows := make([][]byte, n)
	for i := range rows {
		for j := range k {
			rows[i] = append(rows[i], m.weight(count(k), j, i))
		}
	}
	return rows
}

// encode is all shares of b.
func (m *maker) encode(b []byte, k, n int) [][]byte {
	padded := pad(b, k)
	size := len(padded) / k
	var pieces [][]byte
	for i := range k {
		pieces = append(pieces, padded[i*size:(i+1)*size])
	}
	return m.values(count(k), pieces, count(n))
}

// decode is the pieces of which these are the shares.
func (m *maker) decode(l []api.Blob) []byte {
	var places []int
	var lists [][]byte
	for _, share := range l {
		places = append(places, share.Num)
		lists = append(lists, share.Data)
	}
	return slices.Concat(m.values(places, lists, count(len(l)))...)
}

// pad puts noughts behind, one at a time.
func pad(b []byte, k int) []byte {
	padded := bytes.Clone(b)
	for len(padded)%k != 0 {
		padded = append(padded, 0)
	}
	return padded
}

// count is the numbers from 0 to below n.
func count(n int) []int {
	var all []int
	for i := range n {
		all = append(all, i)
	}
	return all
}

// row is n bytes far from any rule, others for another seed.
func row(n, seed int) []byte {
	b := make([]byte, n)
	x := uint32(seed)*2654435761 + 12345
	for i := range b {
		x ^= x << 13
		x ^= x >> 17
		x ^= x << 5
		b[i] = byte(x >> 11)
	}
	return b
}

// same says whether two lists of lists are one.
func same(a, b [][]byte) bool {
	return slices.EqualFunc(a, b, bytes.Equal)
}

// clone is a in memory of its own.
func clone(a [][]byte) [][]byte {
	var b [][]byte
	for _, r := range a {
		b = append(b, bytes.Clone(r))
	}
	return b
}

// newCode is New where it is to answer.
func newCode(t *testing.T, k, n int) *rs.Code {
	t.Helper()
	c, err := rs.New(k, n)
	if err != api.OK || c == nil {
		t.Fatalf("New(%d, %d) = %v, %d", k, n, c, err)
	}
	return c
}

// eachCode hands out every code that there is.
func eachCode(t *testing.T, do func(c *rs.Code, k, n int)) {
	t.Helper()
	for n := 1; n <= most; n++ {
		for k := 1; k <= n; k++ {
			do(newCode(t, k, n), k, n)
		}
	}
}

// eachChoice hands out every choice of k numbers of n, rising; each list is new.
func eachChoice(k, n int, do func(which []int)) {
	for set := range 1 << n {
		var which []int
		for i := range n {
			if set>>i&1 == 1 {
				which = append(which, i)
			}
		}
		if len(which) == k {
			do(which)
		}
	}
}

// eachOrder hands out every order of the numbers; each list is new.
func eachOrder(which []int, do func(order []int)) {
	if len(which) == 0 {
		do(nil)
		return
	}
	for i, first := range which {
		eachOrder(slices.Delete(slices.Clone(which), i, i+1), func(rest []int) {
			do(append([]int{first}, rest...))
		})
	}
}

// mixed is the numbers in an order far from any rule, another for another seed.
func mixed(which []int, seed int) []int {
	order := slices.Clone(which)
	for i, b := range row(len(order), seed) {
		j := int(b) % (i + 1)
		order[i], order[j] = order[j], order[i]
	}
	return order
}

// blobs are the shares of those numbers, in that order.
func blobs(shares [][]byte, which []int) []api.Blob {
	var l []api.Blob
	for _, i := range which {
		l = append(l, api.Blob{Num: i, Data: bytes.Clone(shares[i])})
	}
	return l
}

// lengths are lengths of segments, more of them about the multiples of k.
func lengths(k int) []int {
	all := []int{0, 1, 2, 3, 5, 31, 64, 100}
	for _, times := range []int{1, 2, 3, 7} {
		all = append(all, times*k-1, times*k, times*k+1)
	}
	slices.Sort(all)
	return slices.Compact(all)
}

// far are numbers that a shorter kind of number would take for small ones, and the least and the greatest that there are.
func far() []int {
	return []int{
		math.MinInt, math.MinInt + 1, math.MinInt64 + 16, math.MinInt32, math.MinInt32 - 1, -1 << 40, -1<<32 + 1, -1 << 16, -257, -256, -255,
		255, 256, 257, 1 << 16, 1<<16 + 1, 1<<31 - 1, 1 << 31, 1<<32 + 1, 1<<32 + 16, 1<<40 + 3, math.MaxInt - 15, math.MaxInt - 1, math.MaxInt,
	}
}

// P6.1: New

func TestNewAboutTheBounds(t *testing.T) {
	for k := -20; k <= 40; k++ {
		for n := -20; n <= 40; n++ {
			c, err := rs.New(k, n)
			if 1 <= k && k <= n && n <= most {
				if c == nil || err != api.OK {
					t.Errorf("New(%d, %d) = %v, %d", k, n, c, err)
				}
			} else if c != nil || err != api.ErrArg {
				t.Errorf("New(%d, %d) = %v, %d, want ErrArg alone", k, n, c, err)
			}
		}
	}
}

func TestNewOfFarNumbers(t *testing.T) {
	refused := func(k, n int) {
		if c, err := rs.New(k, n); c != nil || err != api.ErrArg {
			t.Errorf("New(%d, %d) = %v, %d, want ErrArg alone", k, n, c, err)
		}
	}
	for _, a := range far() {
		for near := -3; near <= 20; near++ {
			refused(a, near)
			refused(near, a)
		}
		for _, b := range far() {
			refused(a, b)
		}
	}
}

// Each call makes a code of its own.
func TestNewIsAnother(t *testing.T) {
	a, b := newCode(t, 2, 4), newCode(t, 2, 4)
	if a == b {
		t.Error("New told one code twice")
	}
	other := newCode(t, 3, 9)
	if got := len(a.Matrix()); got != 4 {
		t.Errorf("a code of 4 has %d rows when others were made", got)
	}
	if got := len(other.Matrix()); got != 9 {
		t.Errorf("a code of 9 has %d rows", got)
	}
}

// P6.1: Matrix

func TestMatrixOfEveryCode(t *testing.T) {
	m := newMaker()
	eachCode(t, func(c *rs.Code, k, n int) {
		got := c.Matrix()
		if !same(got, m.matrix(k, n)) {
			t.Errorf("the matrix of %d of %d = %v, want %v", k, n, got, m.matrix(k, n))
		}
		if len(got) != n {
			t.Fatalf("the matrix of %d of %d has %d rows", k, n, len(got))
		}
		for i, r := range got {
			if len(r) != k {
				t.Errorf("row %d of the matrix of %d of %d is %d long", i, k, n, len(r))
			}
			unit := make([]byte, k)
			if i < k {
				unit[i] = 1
				if !bytes.Equal(r, unit) {
					t.Errorf("row %d of the matrix of %d of %d = %d, want that of the unit", i, k, n, r)
				}
			}
		}
	})
}

// The matrix times the first k rows of Vandermonde is Vandermonde.
func TestMatrixTimesVandermonde(t *testing.T) {
	m := newMaker()
	power := func(a, n int) byte {
		p := byte(1)
		for range n {
			p = m.products[p][byte(a)]
		}
		return p
	}
	eachCode(t, func(c *rs.Code, k, n int) {
		for i, r := range c.Matrix() {
			for column := range k {
				sum := byte(0)
				for j, x := range r {
					sum ^= m.products[x][power(j, column)]
				}
				if sum != power(i, column) {
					t.Errorf("row %d of %d of %d makes %d in column %d, want %d", i, k, n, sum, column, power(i, column))
				}
			}
		}
	})
}

// Worked out by hand: at 2 the line through 0 and 1 is 1+2 of the one and 2 of the other.
func TestMatrixOfKnown(t *testing.T) {
	for _, r := range []struct {
		k, n int
		want [][]byte
	}{
		{1, 1, [][]byte{{1}}},
		{1, 4, [][]byte{{1}, {1}, {1}, {1}}},
		{2, 2, [][]byte{{1, 0}, {0, 1}}},
		{2, 5, [][]byte{{1, 0}, {0, 1}, {3, 2}, {2, 3}, {5, 4}}},
		{3, 4, [][]byte{{1, 0, 0}, {0, 1, 0}, {0, 0, 1}, {1, 1, 1}}},
	} {
		if got := newCode(t, r.k, r.n).Matrix(); !same(got, r.want) {
			t.Errorf("the matrix of %d of %d = %v, want %v", r.k, r.n, got, r.want)
		}
	}
}

// P6.1: Length

func TestLengthOfEveryCode(t *testing.T) {
	eachCode(t, func(c *rs.Code, k, n int) {
		for size := -40; size <= 8*k+40; size++ {
			want := 0
			for want*k < size {
				want++
			}
			if got := c.Length(size); got != want {
				t.Errorf("Length(%d) of %d of %d = %d, want %d", size, k, n, got, want)
			}
		}
	})
}

func TestLengthOfGreatSizes(t *testing.T) {
	eachCode(t, func(c *rs.Code, k, n int) {
		for _, about := range []int{1 << 8, 1 << 10, 1 << 14, 1 << 16, 1 << 31, 1 << 32, 1 << 53, 1 << 62, math.MaxInt - 3*k} {
			whole := about / k
			for size := whole*k - k; size <= whole*k+2*k; size++ {
				want := size / k
				if size%k > 0 {
					want++
				}
				if got := c.Length(size); got != want {
					t.Errorf("Length(%d) of %d of %d = %d, want %d", size, k, n, got, want)
				}
			}
		}
		for back := range 2 * k {
			size := math.MaxInt - back
			want := size / k
			if want*k != size {
				want++
			}
			if got := c.Length(size); got != want {
				t.Errorf("Length(%d) of %d of %d = %d, want %d", size, k, n, got, want)
			}
		}
		for _, size := range []int{math.MinInt, math.MinInt + 1, math.MinInt + k, -1 << 40, -1 << 32, math.MinInt32, -k, 1 - k, 0} {
			if got := c.Length(size); got != 0 {
				t.Errorf("Length(%d) of %d of %d = %d, want 0", size, k, n, got)
			}
		}
	})
}

func TestLengthIsThatOfShares(t *testing.T) {
	eachCode(t, func(c *rs.Code, k, n int) {
		for size := range 3*k + 2 {
			for i, share := range c.Encode(row(size, size)) {
				if len(share) != c.Length(size) {
					t.Errorf("share %d of %d bytes, %d of %d, is %d long, Length tells %d", i, size, k, n, len(share), c.Length(size))
				}
			}
		}
	})
}

// P6.2: Pad

func TestPadAboutTheMultiples(t *testing.T) {
	for k := 1; k <= 70; k++ {
		for size := range 4*k + 4 {
			b := row(size, size+k)
			got := rs.Pad(b, k)
			if !bytes.Equal(got, pad(b, k)) {
				t.Errorf("Pad of %d bytes and %d = %d, want %d", size, k, got, pad(b, k))
			}
			if missing := len(got) - size; missing < 0 || missing >= k || len(got)%k != 0 {
				t.Errorf("Pad of %d bytes and %d has %d", size, k, len(got))
			}
		}
	}
}

func TestPadOfKnown(t *testing.T) {
	for _, r := range []struct {
		b    []byte
		k    int
		want []byte
	}{
		{nil, 1, nil},
		{nil, 5, nil},
		{[]byte{}, 16, nil},
		{[]byte{9}, 1, []byte{9}},
		{[]byte{9}, 4, []byte{9, 0, 0, 0}},
		{[]byte{1, 2, 3}, 2, []byte{1, 2, 3, 0}},
		{[]byte{1, 2, 3}, 3, []byte{1, 2, 3}},
		{[]byte{0, 0}, 3, []byte{0, 0, 0}},
		{[]byte{0, 0, 0}, 3, []byte{0, 0, 0}},
		{[]byte{1, 0, 0, 0}, 3, []byte{1, 0, 0, 0, 0, 0}},
	} {
		if got := rs.Pad(r.b, r.k); !bytes.Equal(got, r.want) {
			t.Errorf("Pad(%d, %d) = %d, want %d", r.b, r.k, got, r.want)
		}
	}
}

// k below 1 is 1: nothing is to be put behind.
func TestPadOfSmallNumbers(t *testing.T) {
	for _, k := range []int{0, -1, -2, -3, -16, -256, math.MinInt32, -1 << 32, math.MinInt + 1, math.MinInt} {
		for size := range 40 {
			b := row(size, size)
			if got := rs.Pad(b, k); !bytes.Equal(got, b) {
				t.Errorf("Pad of %d bytes and %d = %d, want the bytes", size, k, got)
			}
		}
	}
}

func TestPadOfGreatNumbers(t *testing.T) {
	for _, k := range []int{255, 256, 257, 1 << 14, 1<<16 + 1, 1 << 24} {
		for _, size := range []int{0, 1, 2, 100} {
			b := row(size, k)
			got := rs.Pad(b, k)
			want := 0
			if size > 0 {
				want = k
			}
			if len(got) != want || !bytes.HasPrefix(got, b) || len(bytes.Trim(got[size:], "\x00")) != 0 {
				t.Errorf("Pad of %d bytes and %d has %d bytes, want %d, noughts behind the first", size, k, len(got), want)
			}
		}
	}
	// Nothing is a multiple of whatever it is.
	for _, k := range far() {
		if got := rs.Pad(nil, k); len(got) != 0 {
			t.Errorf("Pad of nothing and %d has %d bytes", k, len(got))
		}
	}
}

// Far more than any segment has; where the answer would be longer than any may be, the call just ends.
func TestPadOfFarNumbers(t *testing.T) {
	const far = 1<<28 + 1
	got := rs.Pad([]byte{7}, far)
	if len(got) != far || got[0] != 7 || got[1] != 0 || got[far-1] != 0 {
		t.Errorf("Pad of a byte and %d has %d bytes", far, len(got))
	}
	for _, k := range []int{1 << 31, 1 << 40, math.MaxInt - 1, math.MaxInt} {
		if got := rs.Pad([]byte{7}, k); len(got) != 0 {
			t.Errorf("Pad of a byte and %d has %d bytes", k, len(got))
		}
	}
}

// P6.2: Encode

// holdEncode holds all shares of b against the other maker's, against the matrix, and the first ones against b itself.
func holdEncode(t *testing.T, m *maker, c *rs.Code, k, n int, b []byte) {
	t.Helper()
	got := c.Encode(b)
	if want := m.encode(b, k, n); !same(got, want) {
		t.Errorf("Encode of %d, %d of %d, = %v, want %v", b, k, n, got, want)
		return
	}
	size := (len(b) + k - 1) / k
	for i := range k {
		for column := range size {
			want := byte(0)
			if at := i*size + column; at < len(b) {
				want = b[at]
			}
			if got[i][column] != want {
				t.Errorf("Encode of %d, %d of %d: byte %d of share %d = %d, want that of the segment, %d", b, k, n, column, i, got[i][column], want)
			}
		}
	}
	for i, r := range c.Matrix() {
		for column := range size {
			sum := byte(0)
			for j, x := range r {
				sum ^= m.products[x][got[j][column]]
			}
			if got[i][column] != sum {
				t.Errorf("Encode of %d, %d of %d: byte %d of share %d = %d, want %d, the pieces times the row", b, k, n, column, i, got[i][column], sum)
			}
		}
	}
}

func TestEncodeOfEveryCode(t *testing.T) {
	m := newMaker()
	eachCode(t, func(c *rs.Code, k, n int) {
		for _, size := range lengths(k) {
			holdEncode(t, m, c, k, n, row(size, size+k*n))
		}
		for size := range 4*k + 2 {
			holdEncode(t, m, c, k, n, bytes.Repeat([]byte{255}, size))
		}
	})
}

// Every byte alone, in a code where it stands in all other shares with other factors.
func TestEncodeOfEveryByte(t *testing.T) {
	m := newMaker()
	for _, r := range [][2]int{{1, 16}, {2, 16}, {5, 12}, {15, 16}} {
		c := newCode(t, r[0], r[1])
		for a := range 256 {
			holdEncode(t, m, c, r[0], r[1], []byte{byte(a)})
			holdEncode(t, m, c, r[0], r[1], []byte{3, byte(a)})
			holdEncode(t, m, c, r[0], r[1], append(make([]byte, r[0]-1), byte(a)))
		}
	}
}

func TestEncodeOfNothing(t *testing.T) {
	eachCode(t, func(c *rs.Code, k, n int) {
		for _, b := range [][]byte{nil, {}} {
			if got := c.Encode(b); !same(got, make([][]byte, n)) {
				t.Errorf("Encode of nothing, %d of %d, = %v, want %d shares of nothing", k, n, got, n)
			}
		}
	})
}

func TestEncodeOfLongOnes(t *testing.T) {
	m := newMaker()
	for _, r := range [][2]int{{1, 1}, {1, 3}, {3, 10}, {7, 7}, {16, 16}} {
		for _, size := range []int{api.MaxData, api.MaxBytes - 1, 1<<16 + 5} {
			holdEncode(t, m, newCode(t, r[0], r[1]), r[0], r[1], row(size, size))
		}
	}
}

func TestEncodeOfKnown(t *testing.T) {
	for _, r := range []struct {
		k, n int
		b    []byte
		want [][]byte
	}{
		{1, 3, []byte("ab"), [][]byte{[]byte("ab"), []byte("ab"), []byte("ab")}},
		{2, 2, []byte("abc"), [][]byte{[]byte("ab"), {'c', 0}}},
		{2, 3, []byte{1, 128, 128}, [][]byte{{1, 128}, {128, 0}, {3 ^ 29, 29 ^ 128}}},
		{3, 4, []byte{1, 2, 4}, [][]byte{{1}, {2}, {4}, {7}}},
		{4, 4, []byte{5}, [][]byte{{5}, {0}, {0}, {0}}},
		{2, 4, []byte{0, 0}, [][]byte{{0}, {0}, {0}, {0}}},
	} {
		if got := newCode(t, r.k, r.n).Encode(r.b); !same(got, r.want) {
			t.Errorf("Encode(%d), %d of %d, = %v, want %v", r.b, r.k, r.n, got, r.want)
		}
	}
}

// P6.2, P6.3: Decode

// holdDecode decodes the shares of those numbers, in that order.
func holdDecode(t *testing.T, c *rs.Code, shares [][]byte, which []int, want []byte) {
	t.Helper()
	if got, err := c.Decode(blobs(shares, which)...); err != api.OK || !bytes.Equal(got, want) {
		t.Errorf("shares %d of %d decode to %d, %d, want %d", which, len(shares), got, err, want)
	}
}

func TestDecodeOfEveryChoice(t *testing.T) {
	eachCode(t, func(c *rs.Code, k, n int) {
		if n > 10 && k > 2 && k < n-2 {
			return
		}
		b := row(2*k+1, k*n)
		shares, want := c.Encode(b), rs.Pad(b, k)
		eachChoice(k, n, func(which []int) {
			holdDecode(t, c, shares, which, want)
			slices.Reverse(which)
			holdDecode(t, c, shares, which, want)
			holdDecode(t, c, shares, mixed(which, k+which[0]), want)
		})
	})
}

func TestDecodeOfEveryOrder(t *testing.T) {
	for _, r := range [][2]int{{1, 5}, {2, 6}, {3, 6}, {4, 6}, {5, 6}, {5, 5}} {
		k, n := r[0], r[1]
		c := newCode(t, k, n)
		b := row(3*k-1, n)
		shares, want := c.Encode(b), pad(b, k)
		eachChoice(k, n, func(which []int) {
			eachOrder(which, func(order []int) {
				holdDecode(t, c, shares, order, want)
			})
		})
	}
}

// Where the choices are many: windows, every other one, some far from any rule.
func TestDecodeOfManyChoices(t *testing.T) {
	eachCode(t, func(c *rs.Code, k, n int) {
		for _, size := range lengths(k) {
			b := row(size, size*n)
			shares, want := c.Encode(b), pad(b, k)
			for seed := range 4 {
				holdDecode(t, c, shares, mixed(count(n), seed*k+n)[:k], want)
			}
			holdDecode(t, c, shares, count(n)[:k], want)
			holdDecode(t, c, shares, count(n)[n-k:], want)
		}
	})
}

// Shares that no encoder made are shares all the same: those of some pieces.
func TestDecodeOfAnyBytes(t *testing.T) {
	m := newMaker()
	eachCode(t, func(c *rs.Code, k, n int) {
		for seed := range 4 {
			var l []api.Blob
			for i, num := range mixed(count(n), seed+k)[:k] {
				l = append(l, api.Blob{Num: num, Data: row(3, seed*100+i)})
			}
			got, err := c.Decode(l...)
			if err != api.OK || !bytes.Equal(got, m.decode(l)) {
				t.Fatalf("Decode of %v, %d of %d, = %d, %d, want %d", l, k, n, got, err, m.decode(l))
			}
			shares := c.Encode(got)
			for _, share := range l {
				if !bytes.Equal(shares[share.Num], share.Data) {
					t.Errorf("Decode of %v, %d of %d: share %d of the answer = %d", l, k, n, share.Num, shares[share.Num])
				}
			}
		}
	})
}

func TestDecodeOfNoBytes(t *testing.T) {
	eachCode(t, func(c *rs.Code, k, n int) {
		for _, data := range [][]byte{nil, {}} {
			var l []api.Blob
			for _, num := range mixed(count(n), n)[:k] {
				l = append(l, api.Blob{Num: num, Data: data})
			}
			if got, err := c.Decode(l...); err != api.OK || len(got) != 0 {
				t.Errorf("shares of no bytes, %d of %d, decode to %d, %d", k, n, got, err)
			}
		}
	})
	// nil and the empty list are the same, one beside the other too.
	if got, err := newCode(t, 2, 3).Decode(api.Blob{Num: 2}, api.Blob{Num: 0, Data: []byte{}}); err != api.OK || len(got) != 0 {
		t.Errorf("shares of no bytes decode to %d, %d", got, err)
	}
}

func TestDecodeOfLongOnes(t *testing.T) {
	for _, r := range [][2]int{{1, 2}, {3, 10}, {16, 16}} {
		k, n := r[0], r[1]
		c := newCode(t, k, n)
		b := row(1<<16+5, n)
		holdDecode(t, c, c.Encode(b), mixed(count(n), 7)[:k], pad(b, k))
	}
}

func TestDecodeOfKnown(t *testing.T) {
	c := newCode(t, 2, 3)
	for _, l := range [][]api.Blob{
		{{Num: 0, Data: []byte{1, 128}}, {Num: 1, Data: []byte{128, 0}}},
		{{Num: 1, Data: []byte{128, 0}}, {Num: 0, Data: []byte{1, 128}}},
		{{Num: 2, Data: []byte{3 ^ 29, 29 ^ 128}}, {Num: 0, Data: []byte{1, 128}}},
		{{Num: 1, Data: []byte{128, 0}}, {Num: 2, Data: []byte{3 ^ 29, 29 ^ 128}}},
	} {
		if got, err := c.Decode(l...); err != api.OK || !bytes.Equal(got, []byte{1, 128, 128, 0}) {
			t.Errorf("Decode(%v) = %d, %d", l, got, err)
		}
	}
	// 1 of n: each share is the segment.
	one := newCode(t, 1, 16)
	for i := range 16 {
		if got, err := one.Decode(api.Blob{Num: i, Data: []byte("segment")}); err != api.OK || string(got) != "segment" {
			t.Errorf("share %d of 1 of 16 decodes to %q, %d", i, got, err)
		}
	}
}

// A byte turned in a share turns the bytes of its column, in those pieces that hang on the share; all others stay.
func TestDecodeOfATurnedByte(t *testing.T) {
	m := newMaker()
	for _, r := range [][2]int{{1, 3}, {2, 5}, {3, 3}, {3, 7}, {4, 6}, {9, 16}, {16, 16}} {
		k, n := r[0], r[1]
		c := newCode(t, k, n)
		const size = 3
		b := row(size*k, n)
		shares := c.Encode(b)
		for seed := range 12 {
			which := mixed(count(n), seed+n)[:k]
			for at := range which {
				for column := range size {
					turn := byte(1 << (seed % 8))
					l := blobs(shares, which)
					l[at].Data[column] ^= turn
					got, err := c.Decode(l...)
					want := bytes.Clone(b)
					for piece := range k {
						want[piece*size+column] ^= m.products[turn][m.weight(which, at, piece)]
					}
					if err != api.OK || !bytes.Equal(got, want) {
						t.Errorf("shares %d of %d of %d, byte %d of the share at %d turned: %d, %d, want %d", which, k, n, column, at, got, err, want)
					}
					holdTurned(t, b, got, which, at, size, column)
				}
			}
		}
	}
}

// holdTurned holds which bytes are others: in that column, all but those of pieces that are among the shares themselves.
func holdTurned(t *testing.T, b, got []byte, which []int, at, size, column int) {
	t.Helper()
	for i := range got {
		piece := i / size
		hangs := i%size == column && (piece == which[at] || !slices.Contains(which, piece))
		if hangs != (got[i] != b[i]) {
			t.Errorf("shares %d, byte %d of the share at %d turned: byte %d of piece %d is turned: %v", which, column, at, i%size, piece, !hangs)
		}
	}
}

// refused holds that shares are refused, and nothing is told beside that.
func refused(t *testing.T, c *rs.Code, why string, l ...api.Blob) {
	t.Helper()
	if got, err := c.Decode(l...); len(got) != 0 || err != api.ErrArg {
		t.Errorf("%s: Decode(%v) = %d, %d, want ErrArg alone", why, l, got, err)
	}
}

func TestDecodeOfNotKShares(t *testing.T) {
	eachCode(t, func(c *rs.Code, k, n int) {
		for _, size := range []int{0, 1, 5} {
			shares := c.Encode(row(size, n))
			for some := range n + 1 {
				if some != k {
					refused(t, c, "not k", blobs(shares, count(some))...)
					refused(t, c, "not k", blobs(shares, mixed(count(n), some)[:some])...)
				}
			}
			refused(t, c, "none")
			refused(t, c, "none", []api.Blob{}...)
			first := blobs(shares, count(k))
			refused(t, c, "one more, of a number that is there", append(first, first[0])...)
			refused(t, c, "one more, of a number past all", append(first, api.Blob{Num: n, Data: first[0].Data})...)
			refused(t, c, "one more, of no bytes", append(first, api.Blob{Num: n - 1})...)
			refused(t, c, "all twice", append(first, first...)...)
			for len(first) < 300 {
				first = append(first, first...)
			}
			refused(t, c, "256 more", first[:k+256]...)
		}
	})
}

func TestDecodeOfANumberTwice(t *testing.T) {
	eachCode(t, func(c *rs.Code, k, n int) {
		for _, size := range []int{0, 2 * k} {
			shares := c.Encode(row(size, n))
			which := mixed(count(n), n+k)[:k]
			for i := range which {
				for j := range i {
					l := blobs(shares, which)
					l[i].Num = l[j].Num
					refused(t, c, "a number twice, other bytes", l...)
					l[i] = l[j]
					refused(t, c, "a share twice", l...)
				}
			}
			for num := range n {
				if all := slices.Repeat([]api.Blob{{Num: num, Data: shares[num]}}, k); k > 1 {
					refused(t, c, "one share, k times", all...)
				}
			}
		}
	})
}

func TestDecodeOfNoNumber(t *testing.T) {
	eachCode(t, func(c *rs.Code, k, n int) {
		for _, size := range []int{0, 2 * k} {
			shares := c.Encode(row(size, n))
			bad := append(far(), -1, -2, -n, -n-1, -16, n, n+1, 2*n, 16, 17, 32)
			for _, num := range bad {
				if 0 <= num && num < n {
					continue
				}
				for i := range k {
					l := blobs(shares, mixed(count(n), n*k)[:k])
					l[i].Num = num
					refused(t, c, "no share's number", l...)
				}
			}
		}
	})
	// All of them, one apart, none of which there is.
	c := newCode(t, 3, 8)
	for _, first := range []int{-3, -256, math.MinInt, 8, 256, 1 << 32, math.MaxInt - 2} {
		var l []api.Blob
		for i := range 3 {
			l = append(l, api.Blob{Num: first + i, Data: []byte{1}})
		}
		refused(t, c, "no share's numbers", l...)
	}
}

func TestDecodeOfUnlikeLengths(t *testing.T) {
	eachCode(t, func(c *rs.Code, k, n int) {
		if k == 1 {
			return
		}
		const size = 3
		shares := c.Encode(row(size*k, n))
		for i := range k {
			for _, other := range []int{0, 1, size - 1, size + 1, 2 * size, 256 + size} {
				l := blobs(shares, mixed(count(n), n+i)[:k])
				l[i].Data = append(l[i].Data, row(300, i)...)[:other]
				refused(t, c, "unlike lengths", l...)
				for j := range l {
					if j != i {
						l[j].Data = nil
					}
				}
				if other > 0 {
					refused(t, c, "all but one of no bytes", l...)
				}
			}
		}
		// As many bytes in all as there are to be, but not cut evenly.
		l := blobs(shares, count(k))
		l[0].Data, l[k-1].Data = row(size-1, 1), row(size+1, 2)
		refused(t, c, "one too short, one too long", l...)
	})
}

// A code is as it was when it has refused, and when it has answered.
func TestCodeIsNotChanged(t *testing.T) {
	eachCode(t, func(c *rs.Code, k, n int) {
		b := row(2*k+1, n)
		shares, rows := c.Encode(b), c.Matrix()
		which := mixed(count(n), n)[:k]
		for range 3 {
			refused(t, c, "none")
			refused(t, c, "no share's numbers", slices.Repeat([]api.Blob{{Num: -1}}, k)...)
			holdDecode(t, c, shares, which, pad(b, k))
			if got := c.Encode(row(5, 5)); len(got) != n {
				t.Errorf("Encode of 5 bytes, %d of %d, has %d shares", k, n, len(got))
			}
			if got := c.Encode(b); !same(got, shares) {
				t.Errorf("Encode, %d of %d, = %v when other calls were made, want %v", k, n, got, shares)
			}
			if got := c.Matrix(); !same(got, rows) {
				t.Errorf("Matrix, %d of %d, = %v when other calls were made, want %v", k, n, got, rows)
			}
		}
	})
}

// Memory

// within is b in memory that has other bytes behind its length.
func within(b []byte) []byte {
	return slices.Concat(b, []byte("????????????????????????????????????????"))[:len(b)]
}

// untouched says whether what within made is as it was, also behind its length.
func untouched(b, got []byte) bool {
	whole := got[:len(b)+40]
	return bytes.Equal(whole[:len(b)], b) && len(bytes.Trim(whole[len(b):], "?")) == 0
}

// spoil writes over all that the lists' memory has.
func spoil(lists ...[]byte) {
	for _, b := range lists {
		b = b[:cap(b)]
		for i := range b {
			b[i] ^= 0x5a
		}
	}
}

// aside is whether each list can be written over, and longer, without another one being so.
func aside(lists [][]byte) bool {
	for i := range lists {
		was := clone(lists)
		spoil(lists[i])
		longer := append(lists[i][:len(lists[i]):cap(lists[i])], row(cap(lists[i])-len(lists[i]), 3)...)
		spoil(longer)
		for j := range lists {
			if j != i && !bytes.Equal(lists[j], was[j]) {
				return false
			}
		}
	}
	return true
}

func TestMemoryOfPad(t *testing.T) {
	for _, k := range []int{-1, 0, 1, 2, 3, 6, 7, 40, 46} {
		for _, size := range []int{0, 1, 6, 12} {
			b := row(size, 1)
			in := within(b)
			got := rs.Pad(in, k)
			want := pad(b, max(k, 1))
			if !bytes.Equal(got, want) || !untouched(b, in) {
				t.Errorf("Pad of %d bytes within others, and %d, = %d, want %d; or the others are changed", size, k, got, want)
			}
			again := rs.Pad(in, k)
			spoil(got)
			if !untouched(b, in) || !bytes.Equal(again, want) {
				t.Errorf("Pad of %d bytes and %d lies in what was handed in, or in what was handed out before", size, k)
			}
			spoil(in)
			if !bytes.Equal(again, want) {
				t.Errorf("Pad of %d bytes and %d hangs on what was handed in", size, k)
			}
		}
	}
}

func TestMemoryOfMatrix(t *testing.T) {
	m := newMaker()
	eachCode(t, func(c *rs.Code, k, n int) {
		want := m.matrix(k, n)
		b := row(2*k, n)
		shares := c.Encode(b)
		one, two := c.Matrix(), c.Matrix()
		spoil(one...)
		clear(one[:cap(one)])
		if !same(two, want) || !same(c.Matrix(), want) {
			t.Errorf("the matrix of %d of %d lies in what was handed out before", k, n)
		}
		if got := c.Encode(b); !same(got, shares) {
			t.Errorf("Encode, %d of %d, hangs on a matrix that was handed out", k, n)
		}
		holdDecode(t, c, shares, count(n)[n-k:], b)
		if !aside(two) {
			t.Errorf("the matrix of %d of %d has rows that share memory", k, n)
		}
	})
}

func TestMemoryOfEncode(t *testing.T) {
	eachCode(t, func(c *rs.Code, k, n int) {
		for _, size := range []int{0, 1, k, 2*k - 1, 3 * k} {
			b := row(size, n)
			want := clone(c.Encode(b))
			in := within(b)
			got, again := c.Encode(in), c.Encode(in)
			if !same(got, want) || !untouched(b, in) {
				t.Errorf("Encode of %d bytes within others, %d of %d, = %v, want %v; or the others are changed", size, k, n, got, want)
			}
			if !aside(got) {
				t.Errorf("Encode of %d bytes, %d of %d: two shares share memory", size, k, n)
			}
			spoil(got...)
			clear(got[:cap(got)])
			if !untouched(b, in) {
				t.Errorf("Encode of %d bytes, %d of %d: a share lies in what was handed in", size, k, n)
			}
			if !same(again, want) || !same(c.Encode(b), want) {
				t.Errorf("Encode of %d bytes, %d of %d: a share lies in the code, or in a share that was handed out before", size, k, n)
			}
			spoil(in)
			if !same(again, want) {
				t.Errorf("Encode of %d bytes, %d of %d: a share hangs on what was handed in", size, k, n)
			}
		}
	})
}

func TestMemoryOfDecode(t *testing.T) {
	eachCode(t, func(c *rs.Code, k, n int) {
		for _, which := range [][]int{count(n)[:k], count(n)[n-k:], mixed(count(n), n)[:k]} {
			b := row(3*k, n)
			shares := c.Encode(b)
			list := append(blobs(shares, which), api.Blob{Num: 77, Data: []byte("behind")})
			for i := range list {
				list[i].Data = within(list[i].Data)
			}
			l := list[:k]
			got, err := c.Decode(l...)
			again, err2 := c.Decode(l...)
			if err != api.OK || err2 != api.OK || !bytes.Equal(got, b) {
				t.Errorf("shares %d within others decode to %d, %d", which, got, err)
			}
			spoil(got)
			for i, num := range which {
				if list[i].Num != num || !untouched(shares[num], list[i].Data) {
					t.Errorf("Decode of shares %d: the one at %d is changed, or told as it is: %v", which, i, list[i])
				}
			}
			if last := list[k]; last.Num != 77 || !untouched([]byte("behind"), last.Data) {
				t.Errorf("Decode of shares %d: what lies behind them is changed: %v", which, last)
			}
			for _, share := range list {
				spoil(share.Data)
			}
			clear(list)
			if !bytes.Equal(again, b) {
				t.Errorf("Decode of shares %d hangs on what was handed in, or told before", which)
			}
			holdDecode(t, c, shares, which, b)
			if !same(c.Encode(b), shares) {
				t.Errorf("Encode, %d of %d, hangs on shares that were handed in, or on what was told", k, n)
			}
		}
	})
}

// Shares that lie in one another's memory, or are one list, are read as they stand.
func TestMemoryShared(t *testing.T) {
	m := newMaker()
	c := newCode(t, 3, 7)
	line := []byte{1, 2, 0, 5, 7, 9, 3}
	l := []api.Blob{{Num: 6, Data: line[:4]}, {Num: 0, Data: line[1:5]}, {Num: 4, Data: line[1:5]}}
	want := m.decode(l)
	if got, err := c.Decode(l...); err != api.OK || !bytes.Equal(got, want) || !bytes.Equal(line, []byte{1, 2, 0, 5, 7, 9, 3}) {
		t.Errorf("shares that overlap decode to %d, %d, want %d", got, err, want)
	}
}

// What is refused is not changed.
func TestMemoryOfRefused(t *testing.T) {
	c := newCode(t, 2, 4)
	for _, nums := range [][]int{{0, 0}, {3, 4}, {-1, 2}, {1}, {0, 1, 2}} {
		var l []api.Blob
		for _, num := range nums {
			l = append(l, api.Blob{Num: num, Data: within(row(4, num))})
		}
		refused(t, c, "no k shares", l...)
		for i, num := range nums {
			if l[i].Num != num || !untouched(row(4, num), l[i].Data) {
				t.Errorf("Decode of %d: the share at %d is changed", nums, i)
			}
		}
	}
}
