package matrix_test

import (
	"bytes"
	"math"
	"slices"
	"testing"

	"aumbry/api"
	"aumbry/matrix"
)

const most = 16 // rows of a matrix, and bytes of a row, at most

// maker is another maker of all answers: its products come of no table of the field's, its inverses of determinants.
type maker struct{ products [256][256]byte }

// newMaker multiplies every two bytes as polynomials, at length, and divides by the field's own.
func newMaker() *maker {
	const divisor = 1<<8 | 1<<4 | 1<<3 | 1<<2 | 1
	m := new(maker)
	for a := range 256 {
		for b := range 256 {
			long := 0
			for i := range 8 {
				long ^= a << i * (b >> i & 1)
			}
			for i := 14; i >= 8; i-- {
				long ^= divisor << (i - 8) * (long >> i & 1)
			}
			m.products[a][b] = byte(long)
		}
	}
	return m
}

// power is a to the n, a product at a time.
func (m *maker) power(a byte, n int) byte {
	p := byte(1)
	for range n {
		p = m.products[p][a]
	}
	return p
}

// mul adds up the products, cell by cell.
func (m *maker) mul(a, b [][]byte) [][]byte {
	c := noughts(len(a), len(b[0]))
	for i := range c {
		for j := range c[i] {
			for k := range b {
				c[i][j] ^= m.products[a[i][k]][b[k][j]]
			}
		}
	}
	return c
}

// apply is the product of a and the matrix of the one column v.
func (m *maker) apply(a [][]byte, v []byte) []byte {
	column := noughts(len(v), 1)
	for i, x := range v {
		column[i][0] = x
	}
	return slices.Concat(m.mul(a, column)...)
}

// det is the determinant: the sum over all ways to give each row a column of its own (modulo 2 no way counts less than nothing), a set of columns at a time.
func (m *maker) det(a [][]byte) byte {
	sums := make([]byte, 1<<len(a))
	sums[0] = 1
	for set := range sums {
		if sums[set] == 0 {
			continue
		}
		row := 0
		for s := set; s > 0; s &= s - 1 {
			row++
		}
		for j := 0; j < len(a) && row < len(a); j++ {
			if set>>j&1 == 0 {
				sums[set|1<<j] ^= m.products[sums[set]][a[row][j]]
			}
		}
	}
	return sums[len(sums)-1]
}

// inverse is by Cramer's rule; false: the determinant is 0.
func (m *maker) inverse(a [][]byte) ([][]byte, bool) {
	det := m.det(a)
	if det == 0 {
		return nil, false
	}
	over := byte(slices.Index(m.products[det][:], 1))
	c := noughts(len(a), len(a))
	for i := range c {
		for j := range c {
			c[i][j] = m.products[over][m.det(without(a, j, i))]
		}
	}
	return c, true
}

// without is a less a row and a column.
func without(a [][]byte, row, column int) [][]byte {
	var b [][]byte
	for i := range a {
		if i != row {
			b = append(b, slices.Delete(bytes.Clone(a[i]), column, column+1))
		}
	}
	return b
}

// noughts is n rows of k bytes 0.
func noughts(n, k int) [][]byte {
	a := make([][]byte, n)
	for i := range a {
		a[i] = make([]byte, k)
	}
	return a
}

// unit is 1 down the middle.
func unit(n int) [][]byte {
	a := noughts(n, n)
	for i := range a {
		a[i][i] = 1
	}
	return a
}

// row is n bytes far from any rule, others for another seed.
func row(n, seed int) []byte {
	b := make([]byte, n)
	x := uint32(seed)*2654435761 + 12345
	for i := range b {
		x ^= x << 13
		x ^= x >> 17
		x ^= x << 5
		b[i] = byte(x >> 11)
	}
	return b
}

// mixed is n rows of k bytes far from any rule, others for another seed.
func mixed(n, k, seed int) [][]byte {
	a := make([][]byte, n)
	for i := range a {
		a[i] = row(k, seed*100+i)
	}
	return a
}

// turned is a's rows as columns.
func turned(a [][]byte) [][]byte {
	b := noughts(len(a[0]), len(a))
	for i := range b {
		for j := range b[i] {
			b[i][j] = a[j][i]
		}
	}
	return b
}

// same says whether a and b are one matrix.
func same(a, b [][]byte) bool {
	return slices.EqualFunc(a, b, bytes.Equal)
}

// clone is a in memory of its own.
func clone(a [][]byte) [][]byte {
	var b [][]byte
	for _, r := range a {
		b = append(b, bytes.Clone(r))
	}
	return b
}

// none says whether a call answered just that error, and nothing beside it.
func none(a [][]byte, err, want api.Errno) bool {
	return len(a) == 0 && err == want
}

// eachSides hands out every two sides that a matrix may have.
func eachSides(do func(n, k int)) {
	for n := 1; n <= most; n++ {
		for k := 1; k <= most; k++ {
			do(n, k)
		}
	}
}

// noMatrices is what is no matrix, by name.
func noMatrices() map[string][][]byte {
	long := make([][]byte, 3)
	for i := range long {
		long[i] = row(17, i)
	}
	all := map[string][][]byte{
		"nil":                    nil,
		"no rows":                {},
		"17 rows of 17":          mixed(17, 17, 1),
		"17 rows of 16":          mixed(17, 16, 1),
		"17 rows of 1":           mixed(17, 1, 2),
		"257 rows of 1":          mixed(257, 1, 3),
		"272 rows of 16":         mixed(272, 16, 4),
		"17 rows of 0":           noughts(17, 0),
		"1 row of 0":             {{}},
		"1 row nil":              {nil},
		"16 rows nil":            make([][]byte, 16),
		"3 rows of 0":            noughts(3, 0),
		"1 row of 17":            mixed(1, 17, 5),
		"16 rows of 17":          mixed(16, 17, 6),
		"3 rows of 17":           long,
		"2 rows of 257":          mixed(2, 257, 7),
		"1 row of 272":           mixed(1, 272, 8),
		"the first row is 17":    {row(17, 1), row(16, 2), row(16, 3)},
		"the last row is 17":     {row(16, 1), row(16, 2), row(17, 3)},
		"the first row is short": {{1}, {1, 2}, {1, 2}},
		"the first row is long":  {{1, 2, 3}, {1, 2}, {1, 2}},
		"a row between is short": {{1, 2}, {1}, {1, 2}},
		"a row between is long":  {{1, 2, 3}, {1, 2, 3, 4}, {1, 2, 3}},
		"the last row is short":  {{1, 0, 0}, {0, 1, 0}, {0, 0}},
		"the last row is long":   {{1, 0, 0}, {0, 1, 0}, {0, 0, 1, 0}},
		"the first row is empty": {{}, {1, 2}},
		"the last row is nil":    {{1, 2}, nil},
		"a row between is nil":   {{1, 2, 3}, nil, {1, 2, 3}},
		"two lengths by turns":   {{1, 2}, {1, 2, 3}, {1, 2}, {1, 2, 3}},
		"16 rows, one is short":  append(mixed(15, 16, 9), row(15, 9)),
		"16 rows, one is long":   append(mixed(15, 15, 9), row(16, 9)),
		"16 rows, one is empty":  append(mixed(15, 16, 9), nil),
		"a corner of a 2 by 2":   {{1, 2}, {1}},
	}
	return all
}

// P5.1: Unit

func TestUnitOfEverySize(t *testing.T) {
	for n := -20; n <= 40; n++ {
		got := matrix.Unit(n)
		if n < 1 || n > most {
			if len(got) != 0 {
				t.Errorf("Unit(%d) = %v, want none", n, got)
			}
			continue
		}
		if !same(got, unit(n)) {
			t.Errorf("Unit(%d) = %v", n, got)
		}
	}
	for _, n := range []int{math.MinInt, math.MinInt + 1, -1 << 32, 1<<8 + 1, 1<<16 + 1, 1<<32 + 1, 1<<32 + 16, math.MaxInt} {
		if got := matrix.Unit(n); len(got) != 0 {
			t.Errorf("Unit(%d) has %d rows, want none", n, len(got))
		}
	}
}

// P5.1: Vandermonde

func TestVandermondeOfEverySize(t *testing.T) {
	m := newMaker()
	for n := -3; n <= 20; n++ {
		for k := -3; k <= 20; k++ {
			got := matrix.Vandermonde(n, k)
			if n < 1 || n > most || k < 1 || k > most {
				if len(got) != 0 {
					t.Errorf("Vandermonde(%d, %d) = %v, want none", n, k, got)
				}
				continue
			}
			want := noughts(n, k)
			for i := range want {
				for j := range want[i] {
					want[i][j] = m.power(byte(i), j)
				}
			}
			if !same(got, want) {
				t.Errorf("Vandermonde(%d, %d) = %v, want %v", n, k, got, want)
			}
		}
	}
	for _, far := range []int{math.MinInt, -1 << 32, 1<<8 + 1, 1<<16 + 1, 1<<32 + 1, 1<<32 + 16, math.MaxInt} {
		for _, near := range []int{1, 7, 16, far} {
			if a, b := matrix.Vandermonde(far, near), matrix.Vandermonde(near, far); len(a) != 0 || len(b) != 0 {
				t.Errorf("Vandermonde of %d and %d, and of %d and %d, has %d and %d rows, want none", far, near, near, far, len(a), len(b))
			}
		}
	}
}

// Known rows: of 0 (to the 0 it is 1), of 1, of 2 till the powers pass 255.
func TestVandermondeOfKnown(t *testing.T) {
	got := matrix.Vandermonde(4, 10)
	want := [][]byte{
		{1, 0, 0, 0, 0, 0, 0, 0, 0, 0},
		{1, 1, 1, 1, 1, 1, 1, 1, 1, 1},
		{1, 2, 4, 8, 16, 32, 64, 128, 29, 58},
		{1, 3, 5, 15, 17, 51, 85, 255, 28, 36},
	}
	if !same(got, want) {
		t.Errorf("Vandermonde(4, 10) = %v, want %v", got, want)
	}
	if got := matrix.Vandermonde(1, 1); !same(got, [][]byte{{1}}) {
		t.Errorf("Vandermonde(1, 1) = %v, want one 1", got)
	}
}

// P5.1: Mul

func TestMulOfAllSides(t *testing.T) {
	m := newMaker()
	for _, k := range []int{1, 2, 3, 5, 8, 13, 15, 16} {
		eachSides(func(n, l int) {
			a, b := mixed(n, k, n+l), mixed(k, l, n*l+50)
			if got, err := matrix.Mul(a, b); err != api.OK || !same(got, m.mul(a, b)) {
				t.Errorf("%d by %d times %d by %d = %v, %d", n, k, k, l, got, err)
			}
		})
	}
}

// Every two bytes, as matrices of one.
func TestMulOfBytes(t *testing.T) {
	m := newMaker()
	for a := range 256 {
		for b := range 256 {
			got, err := matrix.Mul([][]byte{{byte(a)}}, [][]byte{{byte(b)}})
			if err != api.OK || !same(got, [][]byte{{m.products[a][b]}}) {
				t.Fatalf("[%d] times [%d] = %v, %d, want %d", a, b, got, err, m.products[a][b])
			}
		}
	}
}

func TestMulByUnit(t *testing.T) {
	eachSides(func(n, k int) {
		a := mixed(n, k, n+k)
		if got, err := matrix.Mul(unit(n), a); err != api.OK || !same(got, a) {
			t.Errorf("the unit times %d by %d = %v, %d", n, k, got, err)
		}
		if got, err := matrix.Mul(a, unit(k)); err != api.OK || !same(got, a) {
			t.Errorf("%d by %d times the unit = %v, %d", n, k, got, err)
		}
		if got, err := matrix.Mul(noughts(n, n), a); err != api.OK || !same(got, noughts(n, k)) {
			t.Errorf("noughts times %d by %d = %v, %d", n, k, got, err)
		}
	})
}

// One times another is not the other times the one.
func TestMulInOrder(t *testing.T) {
	a, b := [][]byte{{1, 2}, {0, 1}}, [][]byte{{1, 0}, {3, 1}}
	if got, err := matrix.Mul(a, b); err != api.OK || !same(got, [][]byte{{7, 2}, {3, 1}}) {
		t.Errorf("a times b = %v, %d", got, err)
	}
	if got, err := matrix.Mul(b, a); err != api.OK || !same(got, [][]byte{{1, 2}, {3, 7}}) {
		t.Errorf("b times a = %v, %d", got, err)
	}
	if got, err := matrix.Mul([][]byte{{2}, {3}}, [][]byte{{128, 1, 0}}); err != api.OK || !same(got, [][]byte{{29, 2, 0}, {157, 3, 0}}) {
		t.Errorf("a column times a row = %v, %d", got, err)
	}
}

func TestMulOfUnfitSides(t *testing.T) {
	sides := []int{1, 2, 3, 7, 15, 16}
	for _, n := range sides {
		for _, k := range sides {
			for _, l := range sides {
				for _, p := range sides {
					got, err := matrix.Mul(mixed(n, k, 1), mixed(l, p, 2))
					if k != l && !none(got, err, api.ErrArg) || k == l && err != api.OK {
						t.Errorf("%d by %d times %d by %d = %v, %d", n, k, l, p, got, err)
					}
				}
			}
		}
	}
}

func TestMulOfNoMatrix(t *testing.T) {
	for name, bad := range noMatrices() {
		// Others that would fit, if it were one.
		for n := 1; n <= most; n++ {
			for _, k := range []int{1, max(1, min(most, len(bad))), most} {
				if got, err := matrix.Mul(bad, mixed(n, k, 1)); !none(got, err, api.ErrArg) {
					t.Errorf("%s times %d by %d = %v, %d, want ErrArg alone", name, n, k, got, err)
				}
				if got, err := matrix.Mul(mixed(k, n, 1), bad); !none(got, err, api.ErrArg) {
					t.Errorf("%d by %d times %s = %v, %d, want ErrArg alone", k, n, name, got, err)
				}
			}
		}
		for other, too := range noMatrices() {
			if got, err := matrix.Mul(bad, too); !none(got, err, api.ErrArg) {
				t.Errorf("%s times %s = %v, %d, want ErrArg alone", name, other, got, err)
			}
		}
	}
}

// P5.1: Apply

func TestApplyOfAllSides(t *testing.T) {
	m := newMaker()
	eachSides(func(n, k int) {
		for seed := range 3 {
			a, v := mixed(n, k, seed), row(k, seed+77)
			if got, err := matrix.Apply(a, v); err != api.OK || !bytes.Equal(got, m.apply(a, v)) {
				t.Errorf("%d by %d applied = %d, %d, want %d", n, k, got, err, m.apply(a, v))
			}
		}
		for i := range k {
			v := make([]byte, k)
			v[i] = 1
			a := mixed(n, k, 5)
			if got, err := matrix.Apply(a, v); err != api.OK || !bytes.Equal(got, turned(a)[i]) {
				t.Errorf("%d by %d applied to 1 at %d = %d, %d, want that column", n, k, i, got, err)
			}
		}
		if got, err := matrix.Apply(mixed(n, k, 6), make([]byte, k)); err != api.OK || !bytes.Equal(got, make([]byte, n)) {
			t.Errorf("%d by %d applied to noughts = %d, %d", n, k, got, err)
		}
	})
}

func TestApplyOfUnfitSides(t *testing.T) {
	eachSides(func(n, k int) {
		for l := range 40 {
			got, err := matrix.Apply(mixed(n, k, 1), row(l, 2))
			if l != k && (len(got) != 0 || err != api.ErrArg) || l == k && (len(got) != n || err != api.OK) {
				t.Errorf("%d by %d applied to %d bytes = %d, %d", n, k, l, got, err)
			}
		}
		if got, err := matrix.Apply(mixed(n, k, 1), nil); len(got) != 0 || err != api.ErrArg {
			t.Errorf("%d by %d applied to nil = %d, %d", n, k, got, err)
		}
	})
}

func TestApplyOfNoMatrix(t *testing.T) {
	for name, bad := range noMatrices() {
		for l := range 40 {
			if got, err := matrix.Apply(bad, row(l, 1)); len(got) != 0 || err != api.ErrArg {
				t.Errorf("%s applied to %d bytes = %d, %d, want ErrArg alone", name, l, got, err)
			}
		}
		for _, r := range bad {
			if got, err := matrix.Apply(bad, r); len(got) != 0 || err != api.ErrArg {
				t.Errorf("%s applied to a row of its own = %d, %d, want ErrArg alone", name, got, err)
			}
		}
	}
}

// P5.1: Rows

func TestRowsOfAllSides(t *testing.T) {
	eachSides(func(n, k int) {
		a := mixed(n, k, n*k)
		for i := range n {
			if got, err := matrix.Rows(a, i); err != api.OK || !same(got, a[i:i+1]) {
				t.Errorf("row %d of %d by %d = %v, %d", i, n, k, got, err)
			}
			for j := range n {
				if got, err := matrix.Rows(a, i, j); err != api.OK || !same(got, [][]byte{a[i], a[j]}) {
					t.Errorf("rows %d and %d of %d by %d = %v, %d", i, j, n, k, got, err)
				}
			}
		}
		var which []int
		var want [][]byte
		for i := range n {
			which = append(which, n-1-i)
			want = append(want, a[n-1-i])
		}
		if got, err := matrix.Rows(a, which...); err != api.OK || !same(got, want) {
			t.Errorf("all rows of %d by %d, from the last one on = %v, %d", n, k, got, err)
		}
	})
}

func TestRowsInAnyOrder(t *testing.T) {
	a := [][]byte{{1, 2}, {3, 4}, {5, 6}, {7, 8}}
	for _, r := range []struct {
		which []int
		want  [][]byte
	}{
		{[]int{0, 1, 2, 3}, a},
		{[]int{2}, [][]byte{{5, 6}}},
		{[]int{3, 0}, [][]byte{{7, 8}, {1, 2}}},
		{[]int{2, 0, 3, 1}, [][]byte{{5, 6}, {1, 2}, {7, 8}, {3, 4}}},
		{[]int{1, 1}, [][]byte{{3, 4}, {3, 4}}},
		{[]int{1, 3, 1}, [][]byte{{3, 4}, {7, 8}, {3, 4}}},
		{[]int{0, 0, 0, 0, 0, 0}, [][]byte{{1, 2}, {1, 2}, {1, 2}, {1, 2}, {1, 2}, {1, 2}}},
	} {
		if got, err := matrix.Rows(a, r.which...); err != api.OK || !same(got, r.want) {
			t.Errorf("rows %d = %v, %d, want %v", r.which, got, err, r.want)
		}
	}
}

// All are rows of a, and there is one at least: more is not asked of the numbers, so they may be more than a has rows, and more than a matrix may have.
func TestRowsOfManyNumbers(t *testing.T) {
	a := mixed(16, 3, 1)
	for _, count := range []int{15, 16, 17, 33, 300} {
		var which []int
		var want [][]byte
		for i := range count {
			which = append(which, i*7%16)
			want = append(want, a[i*7%16])
		}
		if got, err := matrix.Rows(a, which...); err != api.OK || !same(got, want) {
			t.Errorf("%d rows = %v, %d, want %v", count, got, err, want)
		}
	}
}

func TestRowsOfNoRow(t *testing.T) {
	eachSides(func(n, k int) {
		a := mixed(n, k, 1)
		for _, bad := range []int{-1, -2, -n, -256, math.MinInt, n, n + 1, n + 256, 1 << 32, math.MaxInt} {
			for _, which := range [][]int{{bad}, {bad, 0}, {0, bad}, {0, bad, n - 1}, {n - 1, n - 1, bad}, {bad, bad}} {
				if got, err := matrix.Rows(a, which...); !none(got, err, api.ErrArg) {
					t.Errorf("rows %d of %d by %d = %v, %d, want ErrArg alone", which, n, k, got, err)
				}
			}
		}
		if got, err := matrix.Rows(a); !none(got, err, api.ErrArg) {
			t.Errorf("no rows of %d by %d = %v, %d, want ErrArg alone", n, k, got, err)
		}
		if got, err := matrix.Rows(a, []int{}...); !none(got, err, api.ErrArg) {
			t.Errorf("no rows (an empty list) of %d by %d = %v, %d, want ErrArg alone", n, k, got, err)
		}
	})
}

func TestRowsOfNoMatrix(t *testing.T) {
	for name, bad := range noMatrices() {
		for _, which := range [][]int{nil, {0}, {1}, {0, 1}, {-1}, {16}, {len(bad) - 1}, {len(bad)}} {
			if got, err := matrix.Rows(bad, which...); !none(got, err, api.ErrArg) {
				t.Errorf("rows %d of %s = %v, %d, want ErrArg alone", which, name, got, err)
			}
		}
	}
}

// P5.1: Inverse

// holdInverse holds an inverse against the other maker's, and says whether there is one.
func holdInverse(t *testing.T, m *maker, a [][]byte) bool {
	t.Helper()
	want, ok := m.inverse(a)
	got, err := matrix.Inverse(a)
	if !ok {
		if !none(got, err, api.ErrNone) {
			t.Errorf("the inverse of %v = %v, %d, want ErrNone alone", a, got, err)
		}
		return false
	}
	if err != api.OK || !same(got, want) {
		t.Errorf("the inverse of %v = %v, %d, want %v", a, got, err, want)
		return true
	}
	for _, pair := range [][2][][]byte{{a, got}, {got, a}} {
		if p, err := matrix.Mul(pair[0], pair[1]); err != api.OK || !same(p, unit(len(a))) {
			t.Errorf("%v times %v = %v, %d, want the unit", pair[0], pair[1], p, err)
		}
	}
	return true
}

func TestInverseOfEverySize(t *testing.T) {
	m := newMaker()
	for n := 1; n <= most; n++ {
		for seed := range max(1, 14-n) {
			a := mixed(n, n, seed+n*40)
			// A nought in the middle of each row makes rows change places in some.
			for i := range a {
				if seed%2 == 1 {
					a[i][i] = 0
				}
			}
			holdInverse(t, m, a)
		}
	}
}

// Every byte, as a matrix of one.
func TestInverseOfBytes(t *testing.T) {
	m := newMaker()
	for a := range 256 {
		if ok := holdInverse(t, m, [][]byte{{byte(a)}}); ok != (a != 0) {
			t.Errorf("[%d] has an inverse: %v", a, ok)
		}
	}
}

// eachOf hands out every matrix of n by n whose bytes are of that list.
func eachOf(n int, list []byte, do func(a [][]byte)) {
	places := make([]int, n*n)
	for {
		a := noughts(n, n)
		for i, place := range places {
			a[i/n][i%n] = list[place]
		}
		do(a)
		i := 0
		for i < len(places) && places[i] == len(list)-1 {
			places[i] = 0
			i++
		}
		if i == len(places) {
			return
		}
		places[i]++
	}
}

func TestInverseOfAllOfFewBytes(t *testing.T) {
	m := newMaker()
	for _, r := range []struct {
		n    int
		list []byte
	}{
		{2, []byte{0, 1, 2, 3, 29, 142, 255}},
		{3, []byte{0, 1, 2}},
		{4, []byte{0, 1}},
	} {
		some, no := 0, 0
		eachOf(r.n, r.list, func(a [][]byte) {
			if t.Failed() {
				return
			}
			if holdInverse(t, m, a) {
				some++
			} else {
				no++
			}
		})
		if some == 0 || no == 0 {
			t.Errorf("%d by %d: %d with an inverse, %d without: both are to be tried", r.n, r.n, some, no)
		}
	}
}

func TestInverseOfUnit(t *testing.T) {
	for n := 1; n <= most; n++ {
		if got, err := matrix.Inverse(unit(n)); err != api.OK || !same(got, unit(n)) {
			t.Errorf("the inverse of the unit of %d = %v, %d, want itself", n, got, err)
		}
	}
}

// Rows in another order: the inverse puts them back, and asks for rows to change places at most columns.
func TestInverseOfOrders(t *testing.T) {
	m := newMaker()
	for n := 2; n <= most; n++ {
		for turn := range n {
			round, mirror := noughts(n, n), noughts(n, n)
			for i := range n {
				round[i][(i+turn)%n] = byte(i + 1)
				mirror[i][(n-1-i+turn)%n] = 1
			}
			for _, a := range [][][]byte{round, mirror} {
				got, err := matrix.Inverse(a)
				if err != api.OK || !same(m.mul(a, got), unit(n)) || !same(m.mul(got, a), unit(n)) {
					t.Errorf("the inverse of %v = %v, %d", a, got, err)
				}
			}
		}
	}
}

// Made together with their inverses, a step at a time, so that great ones are many.
func TestInverseOfMadeOnes(t *testing.T) {
	m := newMaker()
	for n := 1; n <= most; n++ {
		for seed := range 20 {
			a, b := unit(n), unit(n)
			steps := row(4*n*3, seed+n*31)
			for ; len(steps) > 0; steps = steps[3:] {
				i, j, factor := int(steps[0])%n, int(steps[1])%n, steps[2]
				if i == j && n > 1 {
					a[i], a[(i+1)%n] = a[(i+1)%n], a[i]
					for _, r := range b {
						r[i], r[(i+1)%n] = r[(i+1)%n], r[i]
					}
					continue
				}
				if i == j {
					continue
				}
				// Row i and factor times row j; on the other side column j and factor times column i.
				for k := range n {
					a[i][k] ^= m.products[factor][a[j][k]]
					b[k][j] ^= m.products[factor][b[k][i]]
				}
			}
			if got, err := matrix.Inverse(a); err != api.OK || !same(got, b) {
				t.Errorf("the inverse of %v = %v, %d, want %v", a, got, err, b)
			}
			if got, err := matrix.Inverse(b); err != api.OK || !same(got, a) {
				t.Errorf("the inverse of %v = %v, %d, want %v", b, got, err, a)
			}
		}
	}
}

// Any rows of a Vandermonde have an inverse, as many as they are long.
func TestInverseOfVandermonde(t *testing.T) {
	m := newMaker()
	for k := 1; k <= most; k++ {
		for first := 0; first+k <= most; first++ {
			var which []int
			for i := range k {
				which = append(which, first+(i*5+2)%k)
			}
			slices.Sort(which)
			which = slices.Compact(which)
			for i := 0; len(which) < k; i++ {
				if !slices.Contains(which, i) {
					which = append(which, i)
				}
			}
			a, err := matrix.Rows(matrix.Vandermonde(most, k), which...)
			if err != api.OK {
				t.Fatalf("rows %d of Vandermonde(16, %d): %d", which, k, err)
			}
			if got, err := matrix.Inverse(a); err != api.OK || !same(m.mul(a, got), unit(k)) {
				t.Errorf("the inverse of rows %d of Vandermonde(16, %d) = %v, %d", which, k, got, err)
			}
		}
	}
}

// No inverse: noughts, two rows alike, a row that others make up, a column of noughts, at every place.
func TestInverseOfNone(t *testing.T) {
	m := newMaker()
	for n := 1; n <= most; n++ {
		for i := range n {
			nought, column := mixed(n, n, n), mixed(n, n, n+1)
			nought[i] = make([]byte, n)
			for _, r := range column {
				r[i] = 0
			}
			bad := [][][]byte{noughts(n, n), nought, column}
			if n > 1 {
				alike, made, times := mixed(n, n, n+2), mixed(n, n, n+3), mixed(n, n, n+4)
				j := (i + 1) % n
				alike[i] = bytes.Clone(alike[j])
				others := row(n, n+5)
				others[i] = 0
				made[i] = m.mul([][]byte{others}, made)[0]
				times[i] = m.mul([][]byte{{29}}, times[j:j+1])[0]
				bad = append(bad, alike, turned(alike), made, turned(made), times, turned(times))
			}
			for _, a := range bad {
				if got, err := matrix.Inverse(a); !none(got, err, api.ErrNone) {
					t.Errorf("the inverse of %v = %v, %d, want ErrNone alone", a, got, err)
				}
			}
		}
	}
}

// All columns but the last stand for themselves; only the last one is made up of them.
func TestInverseOfNoneAtTheLastColumn(t *testing.T) {
	m := newMaker()
	for n := 1; n <= most; n++ {
		for seed := range 4 {
			low, a := mixed(n, n, seed), mixed(n, n, seed+9)
			for i := range n {
				low[i][i], a[i][i] = 1, 1
				for j := range n {
					if j < i {
						a[i][j] = 0
					} else if j > i {
						low[i][j] = 0
					}
				}
			}
			whole := m.mul(low, a)
			if got, err := matrix.Inverse(whole); err != api.OK || !same(m.mul(whole, got), unit(n)) {
				t.Errorf("the inverse of %v = %v, %d", whole, got, err)
			}
			a[n-1][n-1] = 0
			for _, bad := range [][][]byte{a, m.mul(low, a), turned(m.mul(low, a))} {
				if got, err := matrix.Inverse(bad); !none(got, err, api.ErrNone) {
					t.Errorf("the inverse of %v = %v, %d, want ErrNone alone", bad, got, err)
				}
			}
		}
	}
}

func TestInverseOfNotSquare(t *testing.T) {
	eachSides(func(n, k int) {
		if n == k {
			return
		}
		for _, a := range [][][]byte{mixed(n, k, 1), noughts(n, k), matrix.Vandermonde(n, k)} {
			if got, err := matrix.Inverse(a); !none(got, err, api.ErrArg) {
				t.Errorf("the inverse of %v = %v, %d, want ErrArg alone", a, got, err)
			}
		}
	})
}

func TestInverseOfNoMatrix(t *testing.T) {
	for name, bad := range noMatrices() {
		if got, err := matrix.Inverse(bad); !none(got, err, api.ErrArg) {
			t.Errorf("the inverse of %s = %v, %d, want ErrArg alone", name, got, err)
		}
	}
	// No matrix is named before no inverse is.
	for _, bad := range [][][]byte{noughts(17, 17), noughts(17, 16), {{0, 0}, {0}}, {{0, 0}, {0, 0, 0}}} {
		if got, err := matrix.Inverse(bad); !none(got, err, api.ErrArg) {
			t.Errorf("the inverse of %v = %v, %d, want ErrArg alone", bad, got, err)
		}
	}
}

// Memory

// within is a in one piece of memory: each row has other bytes behind its length, and the list has other rows behind its own.
func within(a [][]byte) (list, whole [][]byte) {
	for _, r := range a {
		whole = append(whole, slices.Concat(r, []byte("????????????????????????????????????????")))
	}
	whole = append(whole, []byte("behind"), []byte("behind"))
	for i, r := range a {
		list = append(list, whole[i][:len(r)])
	}
	list = append(list, whole[len(a):]...)
	return list[:len(a)], whole
}

// untouched says whether what within made is as it was.
func untouched(a, list, whole [][]byte) bool {
	_, fresh := within(a)
	all := list[:len(a)+2]
	return same(list, a) && same(whole, fresh) && same(all[len(a):], fresh[len(a):]) && (len(a) == 0 || &list[0] == &all[0])
}

// spoil writes over all that the lists' memory has.
func spoil(lists ...[][]byte) {
	for _, a := range lists {
		for _, r := range a[:cap(a)] {
			r = r[:cap(r)]
			for i := range r {
				r[i] = '#'
			}
		}
		clear(a[:cap(a)])
	}
}

// call is one of the calls, with what is handed in bound to it.
type call struct {
	name string
	args [][][]byte
	do   func(args [][][]byte) [][]byte
}

// calls are all calls, answered and refused ones, as lists in and a list out.
func calls() []call {
	mul := func(args [][][]byte) [][]byte {
		got, _ := matrix.Mul(args[0], args[1])
		return got
	}
	inverse := func(args [][][]byte) [][]byte {
		got, _ := matrix.Inverse(args[0])
		return got
	}
	rows := func(args [][][]byte) [][]byte {
		got, _ := matrix.Rows(args[0], 2, 0, 2, 1)
		return got
	}
	apply := func(args [][][]byte) [][]byte {
		got, _ := matrix.Apply(args[0], args[1][0])
		return [][]byte{got}
	}
	singular := mixed(5, 5, 8)
	singular[4] = bytes.Clone(singular[0])
	return []call{
		{"Mul", [][][]byte{mixed(3, 4, 1), mixed(4, 5, 2)}, mul},
		{"Mul by the unit", [][][]byte{unit(4), mixed(4, 5, 2)}, mul},
		{"Mul of the greatest", [][][]byte{mixed(16, 16, 1), mixed(16, 16, 2)}, mul},
		{"Mul of unfit sides", [][][]byte{mixed(3, 4, 1), mixed(3, 4, 2)}, mul},
		{"Inverse", [][][]byte{mixed(6, 6, 3)}, inverse},
		{"Inverse of the unit", [][][]byte{unit(3)}, inverse},
		{"Inverse of one", [][][]byte{{{1}}}, inverse},
		{"Inverse with rows changed", [][][]byte{{{0, 0, 1}, {1, 0, 0}, {0, 1, 0}}}, inverse},
		{"Inverse of none", [][][]byte{singular}, inverse},
		{"Inverse of not square", [][][]byte{mixed(5, 6, 3)}, inverse},
		{"Rows", [][][]byte{mixed(3, 16, 4)}, rows},
		{"Rows of too few", [][][]byte{mixed(2, 16, 4)}, rows},
		{"Apply", [][][]byte{mixed(5, 7, 5), mixed(1, 7, 6)}, apply},
		{"Apply of unfit sides", [][][]byte{mixed(5, 7, 5), mixed(1, 8, 6)}, apply},
		{"Unit", nil, func([][][]byte) [][]byte { return matrix.Unit(5) }},
		{"Vandermonde", nil, func([][][]byte) [][]byte { return matrix.Vandermonde(6, 7) }},
	}
}

// What is handed in is neither changed nor kept, and what lies behind it is neither read nor written; what is handed out shares nothing with it.
func TestMemoryOfArguments(t *testing.T) {
	for _, c := range calls() {
		want := clone(c.do(c.args))
		var lists, wholes [][][]byte
		for _, a := range c.args {
			list, whole := within(a)
			lists, wholes = append(lists, list), append(wholes, whole)
		}
		got := c.do(lists)
		if !same(got, want) {
			t.Errorf("%s = %v, want %v as from memory of its own", c.name, got, want)
		}
		for i, a := range c.args {
			if !untouched(a, lists[i], wholes[i]) {
				t.Errorf("%s: what was handed in is changed: %v, was %v", c.name, lists[i], a)
			}
		}
		spoil(got)
		for i, a := range c.args {
			if !untouched(a, lists[i], wholes[i]) {
				t.Errorf("%s: what is handed out lies in what was handed in", c.name)
			}
		}
		got = c.do(lists)
		spoil(lists...)
		spoil(wholes...)
		if !same(got, want) {
			t.Errorf("%s = %v when what was handed in is written over, want %v", c.name, got, want)
		}
		if again := c.do(c.args); !same(again, want) {
			t.Errorf("%s = %v when the lists before are written over, want %v", c.name, again, want)
		}
	}
}

// Each row that is handed out is memory of its own, also where two rows are alike.
func TestMemoryOfAnswers(t *testing.T) {
	for _, c := range calls() {
		want := clone(c.do(c.args))
		got := c.do(c.args)
		for i := range got {
			one := clone(want)
			spoil(got[i : i+1 : i+1])
			one[i] = nil
			if !same(got, one) {
				t.Errorf("%s: row %d shares memory with another row: %v, want %v", c.name, i, got, one)
			}
			got = c.do(c.args)
			if !same(got, want) {
				t.Errorf("%s = %v when an answer before is written over, want %v", c.name, got, want)
			}
			got[i] = append(got[i], "?????????????????????????"...)
			for j := range got {
				if j != i && !bytes.Equal(got[j], want[j]) {
					t.Errorf("%s: row %d lies behind row %d in its memory", c.name, j, i)
				}
			}
			got = c.do(c.args)
		}
	}
}

func TestMemoryOfNumbers(t *testing.T) {
	a := mixed(4, 3, 1)
	whole := []int{3, 1, 3, 9, 9}
	which := whole[:3]
	got, err := matrix.Rows(a, which...)
	want := [][]byte{a[3], a[1], a[3]}
	if err != api.OK || !same(got, want) || !slices.Equal(whole, []int{3, 1, 3, 9, 9}) {
		t.Errorf("rows %d = %v, %d, or the numbers are changed: %d", which, got, err, whole)
	}
	clear(whole)
	if !same(got, want) {
		t.Error("rows hang on numbers that were handed in")
	}
}

// One list at both places, and rows that lie in one another's memory.
func TestMemoryShared(t *testing.T) {
	m := newMaker()
	a := mixed(5, 5, 2)
	if got, err := matrix.Mul(a, a); err != api.OK || !same(got, m.mul(a, a)) || !same(a, mixed(5, 5, 2)) {
		t.Errorf("a times itself = %v, %d", got, err)
	}
	if got, err := matrix.Apply(a, a[2]); err != api.OK || !bytes.Equal(got, m.apply(a, a[2])) || !same(a, mixed(5, 5, 2)) {
		t.Errorf("a applied to a row of its own = %d, %d", got, err)
	}
	line := []byte{1, 2, 0, 5, 7, 9, 3}
	var over [][]byte
	for i := range 4 {
		over = append(over, line[i:i+4])
	}
	want, ok := m.inverse(clone(over))
	if got, err := matrix.Inverse(over); !ok || err != api.OK || !same(got, want) || !bytes.Equal(line, []byte{1, 2, 0, 5, 7, 9, 3}) {
		t.Errorf("the inverse of rows that overlap = %v, %d, want %v", got, err, want)
	}
}
