package matrix

import (
	"bytes"
	"math"
	"slices"
	"testing"

	"amphora/api"
	"amphora/galois"
)

func same(a, b [][]byte) bool { return slices.EqualFunc(a, b, bytes.Equal) }

// scattered is a matrix of bytes that hang on the seed alone.
func scattered(rows, columns int, seed uint32) [][]byte {
	a := make([][]byte, rows)
	for i := range a {
		a[i] = make([]byte, columns)
		for k := range a[i] {
			seed = seed*1664525 + 1013904223
			a[i][k] = byte(seed >> 24)
		}
	}
	return a
}

// ones is the identity, told without the package.
func ones(n int) [][]byte {
	a := make([][]byte, n)
	for i := range a {
		a[i] = make([]byte, n)
		a[i][i] = 1
	}
	return a
}

// byDefinition is the product of two matrices that have one.
func byDefinition(a, b [][]byte) [][]byte {
	p := make([][]byte, len(a))
	for i := range p {
		p[i] = make([]byte, len(b[0]))
		for k := range p[i] {
			for j := range b {
				p[i][k] = galois.Add(p[i][k], galois.Mul(a[i][j], b[j][k]))
			}
		}
	}
	return p
}

// must is a call's matrix, where it may have no error.
func must(t *testing.T) func(a [][]byte, e api.Errno) [][]byte {
	return func(a [][]byte, e api.Errno) [][]byte {
		t.Helper()
		if e != api.OK {
			t.Fatalf("error %d", e)
		}
		return a
	}
}

// refused has a call answer no matrix, and the error.
func refused(t *testing.T, name string, want api.Errno) func(a [][]byte, e api.Errno) {
	return func(a [][]byte, e api.Errno) {
		t.Helper()
		if e != want || len(a) != 0 {
			t.Errorf("%s: %d rows, error %d, want none and %d", name, len(a), e, want)
		}
	}
}

// noMatrices is what is none, by why not.
func noMatrices() map[string][][]byte {
	ragged := scattered(3, 3, 1)
	ragged[2] = ragged[2][:2]
	long := scattered(3, 3, 1)
	long[1] = append(long[1], 7)
	last := scattered(api.MaxWidth, api.MaxWidth, 1)
	last[api.MaxWidth-1] = nil
	return map[string][][]byte{
		"nil":              nil,
		"empty":            {},
		"a nil row":        {nil},
		"empty rows":       {{}, {}},
		"first row empty":  {{}, {1}},
		"last row empty":   {{1}, {}},
		"a shorter row":    ragged,
		"a longer row":     long,
		"a nil last row":   last,
		"too many rows":    scattered(api.MaxWidth+1, 1, 1),
		"too many columns": scattered(1, api.MaxWidth+1, 1),
		"too much of both": scattered(api.MaxWidth+1, api.MaxWidth+1, 1),
		"far too many":     make([][]byte, 1<<20),
	}
}

// P2.1
func TestMulIsTheProduct(t *testing.T) {
	got := must(t)(Mul([][]byte{{1, 2}, {3, 4}, {0, 5}}, [][]byte{{0x80, 1}, {2, 0}}))
	// 80 + 4, 1; 3 * 80 + 8, 3; 5 * 2, 0: without carry.
	if want := [][]byte{{0x84, 1}, {0x80 ^ 0x1d ^ 8, 3}, {0x0a, 0}}; !same(got, want) {
		t.Errorf("%x, want %x", got, want)
	}
	for _, c := range [][3]int{{1, 1, 1}, {1, 3, 2}, {4, 1, 4}, {5, 6, 7}, {1, 255, 1}, {255, 1, 255}, {255, 255, 255}} {
		a, b := scattered(c[0], c[1], 3), scattered(c[1], c[2], 4)
		if got := must(t)(Mul(a, b)); !same(got, byDefinition(a, b)) {
			t.Errorf("the product of sizes %v is wrong", c)
		}
	}
}

// P2.1
func TestMulRefuses(t *testing.T) {
	for name, no := range noMatrices() {
		refused(t, name, api.ErrArg)(Mul(no, scattered(3, 3, 1)))
		refused(t, name, api.ErrArg)(Mul(scattered(3, 3, 1), no))
		refused(t, name, api.ErrArg)(Mul(no, no))
	}
	for _, c := range [][4]int{{2, 3, 2, 3}, {1, 1, 2, 1}, {1, 2, 1, 1}, {3, 2, 3, 2}, {255, 254, 255, 255}, {254, 255, 254, 255}} {
		refused(t, "unlike sizes", api.ErrArg)(Mul(scattered(c[0], c[1], 1), scattered(c[2], c[3], 1)))
	}
}

// P2.1
func TestIdentity(t *testing.T) {
	for n := 1; n <= api.MaxWidth; n++ {
		if got := must(t)(Identity(n)); !same(got, ones(n)) {
			t.Errorf("Identity(%d) = %x", n, got)
		}
	}
	for _, n := range []int{0, -1, -255, 256, 257, 511, 512, math.MaxInt32, math.MinInt32, math.MaxInt, math.MinInt} {
		refused(t, "a size", api.ErrArg)(Identity(n))
	}
}

// P2.1
func TestRows(t *testing.T) {
	a := [][]byte{{1, 2}, {3, 4}, {5, 6}}
	for _, c := range []struct {
		l    []int
		want [][]byte
	}{
		{[]int{0}, [][]byte{{1, 2}}},
		{[]int{2, 0}, [][]byte{{5, 6}, {1, 2}}},
		{[]int{0, 1, 2}, a},
		{[]int{1, 1, 2, 1}, [][]byte{{3, 4}, {3, 4}, {5, 6}, {3, 4}}},
	} {
		if got := must(t)(Rows(a, c.l)); !same(got, c.want) {
			t.Errorf("Rows(%v) = %x", c.l, got)
		}
	}
	if got := must(t)(Rows(a, make([]int, api.MaxWidth))); len(got) != api.MaxWidth || !bytes.Equal(got[api.MaxWidth-1], a[0]) {
		t.Errorf("MaxWidth times the first row: %d rows", len(got))
	}
}

// P2.1
func TestRowsRefuses(t *testing.T) {
	a := scattered(3, 2, 1)
	for _, l := range [][]int{nil, {}, {3}, {-1}, {0, 1, 3}, {0, -1, 1}, {math.MaxInt}, {math.MinInt}, {0, 1 << 32}, make([]int, api.MaxWidth+1)} {
		refused(t, "numbers", api.ErrArg)(Rows(a, l))
	}
	for name, no := range noMatrices() {
		refused(t, name, api.ErrArg)(Rows(no, []int{0}))
		refused(t, name, api.ErrArg)(Rows(no, nil))
	}
}

// invertible is matrices that have an inverse, small and great, with and without swaps.
func invertible() [][][]byte {
	l := [][][]byte{
		{{1}}, {{2}}, {{0xff}},
		{{0, 1}, {1, 0}},
		{{0, 0, 1}, {1, 0, 0}, {0, 1, 0}},
		{{0, 2, 3}, {0, 0, 5}, {7, 1, 1}},
		{{1, 2}, {3, 4}},
		{{1, 1, 0}, {1, 1, 1}, {0, 1, 1}},
	}
	for _, n := range []int{4, 17, 100, api.MaxWidth} {
		low, high := scattered(n, n, uint32(n)), scattered(n, n, uint32(n)+1)
		for i := range n { // triangles with no nought on the diagonal have an inverse, so their product has
			clear(low[i][i+1:])
			clear(high[i][:i])
			low[i][i] |= 1
			high[i][i] |= 1
		}
		p := byDefinition(low, high)
		slices.Reverse(p)
		l = append(l, p)
	}
	return l
}

// P2.2, P2.5
func TestInvert(t *testing.T) {
	for _, a := range invertible() {
		inverse := must(t)(Invert(a))
		if !same(byDefinition(inverse, a), ones(len(a))) {
			t.Errorf("of %d rows: no inverse from the left", len(a))
		}
		if !same(byDefinition(a, inverse), ones(len(a))) {
			t.Errorf("of %d rows: no inverse from the right", len(a))
		}
		if !same(must(t)(Invert(inverse)), a) {
			t.Errorf("of %d rows: the inverse's inverse is another one", len(a))
		}
	}
	for _, n := range []int{1, 2, api.MaxWidth} {
		if !same(must(t)(Invert(ones(n))), ones(n)) {
			t.Errorf("the inverse of Identity(%d) is another one", n)
		}
	}
	if got := must(t)(Invert([][]byte{{2}})); !same(got, [][]byte{{0x8e}}) {
		t.Errorf("the inverse of (02): %x", got)
	}
}

// P2.2
func TestInvertRefuses(t *testing.T) {
	for name, no := range noMatrices() {
		refused(t, name, api.ErrArg)(Invert(no))
	}
	for _, c := range [][2]int{{1, 2}, {2, 1}, {254, 255}, {255, 254}} {
		refused(t, "not square", api.ErrArg)(Invert(scattered(c[0], c[1], 1)))
	}
	refused(t, "noughts that are not square", api.ErrArg)(Invert([][]byte{{0, 0}}))
}

// P2.2
func TestInvertOfSingular(t *testing.T) {
	twice := scattered(api.MaxWidth, api.MaxWidth, 9)
	copy(twice[api.MaxWidth-1], twice[0])
	last := ones(api.MaxWidth)
	last[api.MaxWidth-1][api.MaxWidth-1] = 0
	for name, a := range map[string][][]byte{
		"a nought":          {{0}},
		"noughts":           {{0, 0}, {0, 0}},
		"like rows":         {{1, 2}, {1, 2}},
		"a multiple":        {{1, 2}, {2, 4}},
		"a sum":             {{1, 2, 3}, {4, 5, 6}, {5, 7, 5}},
		"a row of noughts":  {{1, 2, 3}, {0, 0, 0}, {7, 8, 10}},
		"an empty column":   {{1, 0, 3}, {4, 0, 6}, {7, 0, 10}},
		"the first column":  {{0, 1}, {0, 2}},
		"two of MaxWidth":   twice,
		"MaxWidth less one": last,
	} {
		refused(t, name, api.ErrSingular)(Invert(a))
	}
}

// P2.3
func TestGeneratorExamples(t *testing.T) {
	if got := must(t)(Generator(api.Code{K: 1, M: 1})); !same(got, [][]byte{{1}, {1}}) {
		t.Errorf("K 1, M 1: %x", got)
	}
	if got := must(t)(Generator(api.Code{K: 2, M: 1})); !same(got, [][]byte{{1, 0}, {0, 1}, {0x8e, 0xf4}}) {
		t.Errorf("K 2, M 1: %x", got)
	}
}

// P2.3
func TestGeneratorIsAsDefined(t *testing.T) {
	for _, c := range []api.Code{{K: 1}, {K: 1, M: 254}, {K: 2, M: 3}, {K: 4, M: 2}, {K: 16, M: 16}, {K: 100, M: 50}, {K: 127, M: 128}, {K: 254, M: 1}, {K: 254}, {K: 255}} {
		g := must(t)(Generator(c))
		if len(g) != c.K+c.M || !same(g[:c.K], ones(c.K)) {
			t.Errorf("%v: %d rows, or the first are not the identity", c, len(g))
			continue
		}
		for i := range c.M {
			if len(g[c.K+i]) != c.K {
				t.Errorf("%v: row %d has %d bytes", c, c.K+i, len(g[c.K+i]))
			}
			for k, x := range g[c.K+i] {
				if galois.Mul(x, byte(c.K+i)^byte(k)) != 1 {
					t.Errorf("%v: row %d, byte %d is %x", c, c.K+i, k, x)
				}
			}
		}
	}
}

// P2.3: of huge numbers the sum wraps round, and may look small.
func TestGeneratorRefuses(t *testing.T) {
	for _, c := range []api.Code{
		{}, {K: 0, M: 1}, {K: -1, M: 1}, {K: -1, M: 2}, {K: 1, M: -1}, {K: 255, M: -1}, {K: 256, M: -1}, {K: 300, M: -100},
		{K: 256}, {K: 255, M: 1}, {K: 1, M: 255}, {K: 200, M: 56}, {K: 128, M: 128}, {K: 257, M: 257},
		{K: math.MaxInt}, {K: math.MaxInt, M: 1}, {K: 1, M: math.MaxInt}, {K: math.MaxInt, M: math.MaxInt}, {K: 2, M: math.MaxInt - 1},
		{K: math.MinInt}, {K: math.MinInt, M: math.MinInt}, {K: 1, M: math.MinInt}, {K: math.MinInt, M: math.MaxInt},
	} {
		refused(t, "a code", api.ErrArg)(Generator(c))
	}
}

// P2.4
func TestBracketsDoNotMatter(t *testing.T) {
	for _, c := range [][4]int{{1, 1, 1, 1}, {2, 3, 4, 5}, {5, 1, 5, 1}, {20, 30, 10, 3}, {255, 2, 255, 1}} {
		a, b, d := scattered(c[0], c[1], 5), scattered(c[1], c[2], 6), scattered(c[2], c[3], 7)
		first := must(t)(Mul(must(t)(Mul(a, b)), d))
		last := must(t)(Mul(a, must(t)(Mul(b, d))))
		if !same(first, last) {
			t.Errorf("sizes %v: brackets matter", c)
		}
	}
}

// P2.4
func TestIdentityChangesNothing(t *testing.T) {
	for _, c := range [][2]int{{1, 1}, {2, 3}, {3, 2}, {40, 7}, {1, 255}, {255, 1}, {255, 255}} {
		a := scattered(c[0], c[1], 8)
		left := must(t)(Mul(must(t)(Identity(c[0])), a))
		right := must(t)(Mul(a, must(t)(Identity(c[1]))))
		if !same(left, a) || !same(right, a) {
			t.Errorf("size %v: Identity changes it", c)
		}
	}
}

// choices calls f with each list of k of the numbers from 0 to n - 1, in rising order.
func choices(n, k int, f func(l []int)) {
	var extend func(l []int, from int)
	extend = func(l []int, from int) {
		if len(l) == k {
			f(l)
			return
		}
		for i := from; i < n; i++ {
			extend(append(l, i), i+1)
		}
	}
	extend(nil, 0)
}

// anyRows has rows of a code's generator have an inverse.
func anyRows(t *testing.T, c api.Code, g [][]byte, l []int) {
	t.Helper()
	rows := must(t)(Rows(g, l))
	inverse, e := Invert(rows)
	if e != api.OK {
		t.Fatalf("%v: rows %v: error %d", c, l, e)
	}
	if !same(must(t)(Mul(inverse, rows)), ones(c.K)) {
		t.Fatalf("%v: rows %v: no inverse", c, l)
	}
}

// P2.6
func TestAnyRowsOfSmallGenerators(t *testing.T) {
	for _, c := range []api.Code{{K: 1}, {K: 1, M: 5}, {K: 2, M: 1}, {K: 3, M: 3}, {K: 4, M: 2}, {K: 5, M: 5}, {K: 2, M: 253}} {
		g := must(t)(Generator(c))
		choices(c.K+c.M, c.K, func(l []int) { anyRows(t, c, g, l) })
	}
}

// P2.6
func TestAnyRowsOfGreatGenerators(t *testing.T) {
	for _, c := range []api.Code{{K: 255}, {K: 254, M: 1}, {K: 127, M: 128}, {K: 128, M: 127}, {K: 60, M: 195}} {
		g := must(t)(Generator(c))
		all := make([]int, c.K+c.M)
		for i := range all {
			all[i] = i
		}
		anyRows(t, c, g, all[c.M:])
		slices.Reverse(all)
		anyRows(t, c, g, all[:c.K])
		slices.SortFunc(all, func(a, b int) int { return a*37%256 - b*37%256 })
		anyRows(t, c, g, all[:c.K])
	}
}
