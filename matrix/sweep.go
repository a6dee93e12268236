package matrix

import (
	"bytes"
	"slices"

	"aumbry/gf"
)

// sweep is an inverse in the making: behind each row of a square matrix stands a row of Unit, and whatever makes Unit of the matrix makes the inverse of what is behind it.
type sweep struct {
	rows    [][]byte
	times   func(a, b byte) byte
	inverse func(a byte) byte
}

// begin tells a sweep of which nothing is done yet.
func begin(a [][]byte) *sweep {
	f := gf.New()
	s := &sweep{times: f.Mul, inverse: f.Inv}
	for i, row := range Unit(len(a)) {
		s.rows = append(s.rows, slices.Concat(a[i], row))
	}
	return s
}

// steps are what is done for each column, one behind the other; each says whether it could be done.
func steps() []func(s *sweep, column int) bool {
	return []func(s *sweep, column int) bool{(*sweep).lift, (*sweep).scale, (*sweep).wipe}
}

// lift brings a row that has something in the column to where its 1 is to stand; false: no row that is left has.
func (s *sweep) lift(column int) bool {
	for i := column; i < len(s.rows); i++ {
		if s.rows[i][column] != 0 {
			s.rows[column], s.rows[i] = s.rows[i], s.rows[column]
			return true
		}
	}
	return false
}

// scale makes the column's 1.
func (s *sweep) scale(column int) bool {
	row := s.rows[column]
	factor := s.inverse(row[column])
	for j := range row {
		row[j] = s.times(factor, row[j])
	}
	return true
}

// wipe makes noughts of all else in the column.
func (s *sweep) wipe(column int) bool {
	for i, row := range s.rows {
		if i != column {
			s.addTimes(row, row[column], s.rows[column])
		}
	}
	return true
}

// addTimes adds factor times other to row.
func (s *sweep) addTimes(row []byte, factor byte, other []byte) {
	for j := range row {
		row[j] = gf.Add(row[j], s.times(factor, other[j]))
	}
}

// behind tells what stands behind the first n bytes of each row.
func (s *sweep) behind(n int) [][]byte {
	var all [][]byte
	for _, row := range s.rows {
		all = append(all, bytes.Clone(row[n:]))
	}
	return all
}
