// Package matrix is layer 2: see ../../shared/doc/02-matrix.md.
package matrix

import (
	"amphora/api"
	"amphora/galois"
)

// Mul is a product.
func Mul(a, b [][]byte) ([][]byte, api.Errno) {
	if !isMatrix(a) || !isMatrix(b) || len(a[0]) != len(b) {
		return nil, api.ErrArg
	}
	product := noughts(len(a), len(b[0]))
	for i, row := range a {
		for j, factor := range row {
			addTimes(product[i], b[j], factor)
		}
	}
	return product, api.OK
}

// Invert is an inverse. Whatever turns a into ones turns ones into a's
// inverse: so both stand side by side in wide rows, and are turned together.
func Invert(a [][]byte) ([][]byte, api.Errno) {
	if !isMatrix(a) || len(a) != len(a[0]) {
		return nil, api.ErrArg
	}
	wide := besideOnes(a)
	for i := range a {
		if !bringPivot(wide, i) {
			return nil, api.ErrSingular
		}
		clearColumn(wide, i)
	}
	inverse := make([][]byte, len(a))
	for i, row := range wide {
		inverse[i] = copyRow(row[len(a):])
	}
	return inverse, api.OK
}

// Identity is ones on the diagonal.
func Identity(n int) ([][]byte, api.Errno) {
	if n < 1 || n > api.MaxWidth {
		return nil, api.ErrArg
	}
	return onesAbove(n, n), api.OK
}

// Generator is the matrix of a code.
func Generator(c api.Code) ([][]byte, api.Errno) {
	if !isCode(c) {
		return nil, api.ErrArg
	}
	g := onesAbove(c.K+c.M, c.K)
	for i := c.K; i < c.K+c.M; i++ {
		for k := range c.K {
			g[i][k], _ = galois.Inv(galois.Add(byte(i), byte(k))) // no error: i is not k, so their sum is not 0
		}
	}
	return g, api.OK
}

// Rows is some rows.
func Rows(a [][]byte, l []int) ([][]byte, api.Errno) {
	if !isMatrix(a) || len(l) < 1 || len(l) > api.MaxWidth {
		return nil, api.ErrArg
	}
	rows := make([][]byte, len(l))
	for i, n := range l {
		if n < 0 || n >= len(a) {
			return nil, api.ErrArg
		}
		rows[i] = copyRow(a[n])
	}
	return rows, api.OK
}

// isMatrix tells whether rows are a matrix.
func isMatrix(a [][]byte) bool {
	if len(a) < 1 || len(a) > api.MaxWidth || len(a[0]) < 1 || len(a[0]) > api.MaxWidth {
		return false
	}
	for _, row := range a {
		if len(row) != len(a[0]) {
			return false
		}
	}
	return true
}

// isCode tells whether a code has a generator. K and M are not added up, for
// the sum of huge ones wraps round; the difference does not, as K is 1 or above.
func isCode(c api.Code) bool {
	return c.K >= 1 && c.M >= 0 && c.M <= api.MaxWidth-c.K
}

// noughts is a matrix of them. Each row is made by itself: rows out of one
// piece would have one another as spare room.
func noughts(rows, columns int) [][]byte {
	a := make([][]byte, rows)
	for i := range a {
		a[i] = make([]byte, columns)
	}
	return a
}

// onesAbove is ones on the diagonal, and noughts below it.
func onesAbove(rows, columns int) [][]byte {
	a := noughts(rows, columns)
	for i := range columns {
		a[i][i] = 1
	}
	return a
}

// copyRow is a row in memory of its own.
func copyRow(row []byte) []byte {
	c := make([]byte, len(row))
	copy(c, row)
	return c
}

// besideOnes is a square matrix with the identity to its right.
func besideOnes(a [][]byte) [][]byte {
	wide := noughts(len(a), 2*len(a))
	for i, row := range a {
		copy(wide[i], row)
		wide[i][len(a)+i] = 1
	}
	return wide
}

// bringPivot has row i begin with a one in column i, by a swap with a row
// below it if need be; false, if all of them have a nought there.
func bringPivot(a [][]byte, i int) bool {
	for j := i; j < len(a); j++ {
		inverse, e := galois.Inv(a[j][i])
		if e != api.OK {
			continue
		}
		a[i], a[j] = a[j], a[i]
		scale(a[i], inverse)
		return true
	}
	return false
}

// clearColumn has all rows but row i, the pivot's, have a nought in column i.
// Left of it the pivot's row has noughts already, so nothing changes there.
func clearColumn(a [][]byte, i int) {
	for j, row := range a {
		if j != i {
			addTimes(row[i:], a[i][i:], row[i])
		}
	}
}

// scale multiplies a row.
func scale(row []byte, factor byte) {
	for k, x := range row {
		row[k] = galois.Mul(x, factor)
	}
}

// addTimes adds a multiple of a row to another one.
func addTimes(to, row []byte, factor byte) {
	if factor == 0 { // as most are in a generator's upper rows
		return
	}
	for k, x := range row {
		to[k] = galois.Add(to[k], galois.Mul(x, factor))
	}
}
