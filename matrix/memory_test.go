package matrix

import (
	"slices"
	"testing"

	"amphora/api"
)

// roomy is a matrix of which all lists have room behind their ends, with
// bytes and rows there that nobody may change.
func roomy(a [][]byte) [][]byte {
	r := make([][]byte, 0, len(a)+2)
	for _, row := range a {
		r = append(r, append(slices.Clone(row), 0xa1, 0xa2, 0xa3)[:len(row)])
	}
	return append(r, []byte{0xb1}, []byte{0xb2, 0xb3})[:len(a)]
}

// whole is a copy of all that a matrix's lists reach, their room included.
func whole(a [][]byte) [][]byte {
	var w [][]byte
	for _, row := range a[:cap(a)] {
		w = append(w, slices.Clone(row[:cap(row)]))
	}
	return w
}

// calls is each call that answers a matrix, of a and b, which are square.
func calls() map[string]func(a, b [][]byte) ([][]byte, api.Errno) {
	return map[string]func(a, b [][]byte) ([][]byte, api.Errno){
		"Mul":       Mul,
		"Mul one":   func(a, b [][]byte) ([][]byte, api.Errno) { return Mul(a, a) },
		"Invert":    func(a, b [][]byte) ([][]byte, api.Errno) { return Invert(a) },
		"Rows":      func(a, b [][]byte) ([][]byte, api.Errno) { return Rows(a, []int{2, 0, 2, 2, 1}) },
		"Identity":  func(a, b [][]byte) ([][]byte, api.Errno) { return Identity(3) },
		"Generator": func(a, b [][]byte) ([][]byte, api.Errno) { return Generator(api.Code{K: 3, M: 2}) },
		// These answer errors, and have to leave as much alone.
		"singular":  func(a, b [][]byte) ([][]byte, api.Errno) { return Invert([][]byte{a[0], b[0], a[0]}) },
		"no rows":   func(a, b [][]byte) ([][]byte, api.Errno) { return Rows(a, []int{0, 3}) },
		"no matrix": func(a, b [][]byte) ([][]byte, api.Errno) { return Mul(a, b[:2]) },
	}
}

// swapped needs a swap to be inverted; so its rows would change places, if they were not copied.
func swapped() [][]byte { return roomy([][]byte{{0, 2, 3}, {0, 0, 5}, {7, 1, 1}}) }

func TestArgumentsAreNotChanged(t *testing.T) {
	for name, call := range calls() {
		a, b := swapped(), roomy(scattered(3, 3, 2))
		before, beforeB := whole(a), whole(b)
		first := &a[0][0]
		call(a, b)
		if !same(whole(a), before) || !same(whole(b), beforeB) || first != &a[0][0] {
			t.Errorf("%s changes an argument", name)
		}
	}
	l := append([]int{2, 0}, 9, 9)[:2]
	if _, e := Rows(swapped(), l); e != api.OK || !slices.Equal(l[:4], []int{2, 0, 9, 9}) {
		t.Errorf("Rows changes its numbers: %v, error %d", l[:4], e)
	}
}

// spoil writes over all that a matrix's lists reach.
func spoil(a [][]byte) {
	for _, row := range a[:cap(a)] {
		row = row[:cap(row)]
		for k := range row {
			row[k] ^= 0xff
		}
	}
	clear(a[:cap(a)])
}

func TestAnswersAreNewMemory(t *testing.T) {
	for name, call := range calls() {
		a, b := swapped(), roomy(scattered(3, 3, 2))
		before, beforeB := whole(a), whole(b)
		one, _ := call(a, b)
		other, _ := call(a, b)
		kept := whole(other)
		spoil(one)
		if !same(whole(a), before) || !same(whole(b), beforeB) {
			t.Errorf("%s answers memory of an argument", name)
		}
		if !same(whole(other), kept) {
			t.Errorf("%s answers memory of another answer", name)
		}
		if again, _ := call(a, b); !same(again, other) {
			t.Errorf("%s answers otherwise the next time", name)
		}
	}
}

func TestRowsOfAnAnswerAreApart(t *testing.T) {
	for name, call := range calls() {
		got, _ := call(swapped(), roomy(scattered(3, 3, 2)))
		for i := range got {
			kept := whole(got)
			spoil([][]byte{got[i]})
			for j := range got {
				if j != i && !slices.Equal(got[j][:cap(got[j])], kept[j]) {
					t.Errorf("%s: rows %d and %d share memory", name, i, j)
				}
			}
		}
	}
}

func TestArgumentsAreNotKept(t *testing.T) {
	for name, call := range calls() {
		a, b := swapped(), roomy(scattered(3, 3, 2))
		got, _ := call(a, b)
		kept := whole(got)
		spoil(a)
		spoil(b)
		if !same(whole(got), kept) {
			t.Errorf("%s: its answer changes with an argument", name)
		}
	}
}

// Rows that are one and the same list are a matrix like any other.
func TestRowsInOnePlace(t *testing.T) {
	row := []byte{1, 2}
	if got := must(t)(Mul([][]byte{row, row}, [][]byte{row, row})); !same(got, [][]byte{{3, 6}, {3, 6}}) {
		t.Errorf("Mul: %x", got)
	}
	refused(t, "one row twice", api.ErrSingular)(Invert([][]byte{row, row}))
	if !slices.Equal(row, []byte{1, 2}) {
		t.Errorf("the row is changed: %x", row)
	}
}
