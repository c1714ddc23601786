package stripe

import (
	"bytes"
	"math"
	"slices"
	"testing"

	"amphora/api"
	"amphora/reed"
)

func same(a, b [][]byte) bool { return slices.EqualFunc(a, b, bytes.Equal) }

// scattered is a blob of bytes that hang on the seed alone; none is 0, so
// that noughts behind its end are told from it.
func scattered(size int, seed uint32) []byte {
	blob := make([]byte, size)
	for i := range blob {
		seed = seed*1664525 + 1013904223
		blob[i] = byte(seed>>24)%255 + 1
	}
	return blob
}

// byDefinition is a blob's data: it is filled up to whole stripes, and each
// stripe is dealt out, a unit a shard.
func byDefinition(c api.Code, blob []byte) [][]byte {
	rest := slices.Clone(blob)
	for len(rest) == 0 || len(rest)%(c.K*8) != 0 {
		rest = append(rest, 0)
	}
	data := make([][]byte, c.K)
	for len(rest) > 0 {
		for k := range data {
			data[k] = append(data[k], rest[:8]...)
			rest = rest[8:]
		}
	}
	return data
}

// cut is a blob's shards, where there may be no error.
func cut(t *testing.T, c api.Code, blob []byte) [][]byte {
	t.Helper()
	l, e := Cut(c, blob)
	if e != api.OK || len(l) != c.K+c.M {
		t.Fatalf("%v, size %d: %d shards, error %d", c, len(blob), len(l), e)
	}
	return l
}

// joined has Join answer the blob.
func joined(t *testing.T, c api.Code, blob []byte, shards [][]byte) {
	t.Helper()
	got, e := Join(c, len(blob), shards)
	if e != api.OK || !bytes.Equal(got, blob) {
		t.Fatalf("%v, size %d: %x, error %d, want %x", c, len(blob), got, e, blob)
	}
}

// refused has Join answer nothing, and the error.
func refused(t *testing.T, name string, want api.Errno) func(blob []byte, e api.Errno) {
	return func(blob []byte, e api.Errno) {
		t.Helper()
		if e != want || len(blob) != 0 {
			t.Errorf("%s: %d bytes, error %d, want none and %d", name, len(blob), e, want)
		}
	}
}

// codes is some that may be: the edges, and between them. K 50 is as wide as
// the longest blob.
func codes() []api.Code {
	return []api.Code{
		{K: 1}, {K: 1, M: 1}, {K: 2}, {K: 2, M: 1}, {K: 1, M: 2}, {K: 3, M: 2}, {K: 4, M: 2}, {K: 7, M: 3},
		{K: 49, M: 1}, {K: 50, M: 1}, {K: 51, M: 1}, {K: 255}, {K: 254, M: 1}, {K: 1, M: 254}, {K: 128, M: 127},
	}
}

// noCodes is some that may not be.
func noCodes() []api.Code {
	return []api.Code{
		{}, {K: 0, M: 1}, {K: -1, M: 3}, {K: 3, M: -1}, {K: 256}, {K: 255, M: 1}, {K: 1, M: 255},
		{K: math.MaxInt}, {K: math.MinInt}, {K: 1, M: math.MaxInt}, {K: 1, M: math.MinInt},
		{K: math.MaxInt, M: math.MaxInt}, {K: math.MinInt, M: math.MinInt}, {K: math.MaxInt, M: 2 - math.MaxInt},
		{K: 1 << 60, M: 1}, {K: 1 << 61, M: 1 << 61}, // times Unit they wrap round to 0
	}
}

// noSizes is what no blob has.
func noSizes() []int {
	return []int{-1, -8, -400, 401, 408, 1 << 20, math.MaxInt, math.MaxInt - 7, math.MinInt, math.MinInt + 1}
}

// sizes is the edges for a code: an empty blob, the longest one, and those
// whose end lies at or beside a unit's or a stripe's.
func sizes(c api.Code) []int {
	l := []int{0, 1, 7, 8, 9, 15, 16, 17, 20, 399, 400}
	for stripes := 1; stripes <= 3; stripes++ {
		end := stripes * c.K * 8
		l = append(l, end-9, end-8, end-7, end-1, end, end+1, end+7, end+8, end+9)
	}
	l = slices.DeleteFunc(l, func(size int) bool { return size < 0 || size > 400 })
	slices.Sort(l)
	return slices.Compact(l)
}

// P4.1, the chapter's example
func TestExample(t *testing.T) {
	c := api.Code{K: 2, M: 1}
	if n := Length(c, 20); n != 16 {
		t.Errorf("Length: %d", n)
	}
	l := cut(t, c, []byte("abcdefghijklmnopqrst"))
	want := [][]byte{[]byte("abcdefghqrst\x00\x00\x00\x00"), []byte("ijklmnop\x00\x00\x00\x00\x00\x00\x00\x00")}
	if !same(l[:2], want) || len(l[2]) != 16 {
		t.Errorf("%q, want %q and one of 16 bytes", l, want)
	}
}

// P4.1
func TestLength(t *testing.T) {
	for _, c := range codes() {
		for size := range 401 {
			if got, want := Length(c, size), len(byDefinition(c, make([]byte, size))[0]); got != want {
				t.Fatalf("%v, size %d: %d, want %d", c, size, got, want)
			}
		}
	}
	for _, x := range []struct{ k, size, want int }{
		{1, 0, 8}, {1, 1, 8}, {1, 8, 8}, {1, 9, 16}, {1, 400, 400}, {1, 399, 400}, {2, 16, 8}, {2, 17, 16}, {2, 32, 16}, {2, 33, 24},
		{49, 392, 8}, {49, 393, 16}, {50, 400, 8}, {255, 0, 8}, {255, 400, 8}, {3, 400, 136},
	} {
		if got := Length(api.Code{K: x.k}, x.size); got != x.want {
			t.Errorf("K %d, size %d: %d, want %d", x.k, x.size, got, x.want)
		}
	}
}

// P4.1
func TestLengthOfNone(t *testing.T) {
	for _, c := range noCodes() {
		for _, size := range append(noSizes(), 0, 1, 20, 400) {
			if n := Length(c, size); n != 0 {
				t.Errorf("%v, size %d: %d", c, size, n)
			}
		}
	}
	for _, c := range codes() {
		for _, size := range noSizes() {
			if n := Length(c, size); n != 0 {
				t.Errorf("%v, size %d: %d", c, size, n)
			}
		}
	}
}

// P4.1
func TestCut(t *testing.T) {
	for _, c := range codes() {
		for _, size := range sizes(c) {
			blob := scattered(size, uint32(size))
			l := cut(t, c, blob)
			if !same(l[:c.K], byDefinition(c, blob)) {
				t.Fatalf("%v, size %d: other data", c, size)
			}
			if !reed.Right(c, l) || len(l[0]) != Length(c, size) {
				t.Fatalf("%v, size %d: the shards are not right", c, size)
			}
		}
	}
}

// P4.1
func TestCutOfAnEmptyBlob(t *testing.T) {
	c := api.Code{K: 2, M: 1}
	want := [][]byte{make([]byte, 8), make([]byte, 8), make([]byte, 8)}
	if !same(cut(t, c, nil), want) || !same(cut(t, c, []byte{}), want) {
		t.Error("not one stripe of noughts")
	}
}

// P4.1
func TestCutRefuses(t *testing.T) {
	for _, c := range noCodes() {
		for _, blob := range [][]byte{nil, {}, {1}, scattered(400, 1), scattered(401, 1)} {
			if l, e := Cut(c, blob); e != api.ErrArg || len(l) != 0 {
				t.Errorf("%v: %d shards, error %d", c, len(l), e)
			}
		}
	}
	for _, c := range codes() {
		for _, size := range []int{401, 402, 408, 1 << 16} {
			if l, e := Cut(c, make([]byte, size)); e != api.ErrArg || len(l) != 0 {
				t.Errorf("%v, size %d: %d shards, error %d", c, size, len(l), e)
			}
		}
	}
}

// choices goes through all ways to take k of shards: the others are missing,
// half of them nil, half empty.
func choices(shards [][]byte, k int, tell func(some [][]byte)) {
	for set := range 1 << len(shards) {
		some, there := slices.Clone(shards), 0
		for i := range some {
			if set>>i&1 == 1 {
				there++
			} else if some[i] = nil; i%2 == 1 {
				some[i] = []byte{}
			}
		}
		if there == k {
			tell(some)
		}
	}
}

// P4.3, P4.2
func TestThereAndBack(t *testing.T) {
	for _, c := range []api.Code{{K: 1}, {K: 1, M: 2}, {K: 2, M: 1}, {K: 3}, {K: 3, M: 2}, {K: 4, M: 3}} {
		for _, size := range sizes(c) {
			blob := scattered(size, uint32(size))
			all := cut(t, c, blob)
			joined(t, c, blob, all)
			for there := c.K; there <= c.K+c.M; there++ {
				choices(all, there, func(some [][]byte) { joined(t, c, blob, some) })
			}
		}
	}
}

// P4.3, P4.2
func TestThereAndBackOfWideCodes(t *testing.T) {
	for _, c := range codes() {
		for _, size := range []int{0, 20, 400} {
			blob := scattered(size, 2)
			all := cut(t, c, blob)
			joined(t, c, blob, all)
			first, last, spread := slices.Clone(all), slices.Clone(all), slices.Clone(all)
			for i := range c.M { // as many are missing as may be
				first[i], last[c.K+i], spread[i*(c.K+c.M)/c.M] = nil, nil, nil
			}
			joined(t, c, blob, first)
			joined(t, c, blob, last)
			joined(t, c, blob, spread)
		}
	}
}

// P4.3: each size there is.
func TestThereAndBackOfAllSizes(t *testing.T) {
	c := api.Code{K: 3, M: 2}
	for size := range 401 {
		blob := scattered(size, uint32(size))
		all := cut(t, c, blob)
		all[0], all[2] = nil, nil
		joined(t, c, blob, all)
	}
}

// P4.2: the blob is reed.Decode's, so a shard behind the first K is not asked.
func TestJoinTakesTheFirstThere(t *testing.T) {
	c := api.Code{K: 2, M: 2}
	blob := scattered(20, 1)
	all := cut(t, c, blob)
	all[0], all[3] = nil, scattered(16, 9)
	joined(t, c, blob, all)
	all[3], all[2] = cut(t, c, blob)[3], scattered(16, 9)
	if got, e := Join(c, 20, all); e != api.OK || len(got) != 20 || bytes.Equal(got, blob) {
		t.Errorf("%x, error %d", got, e)
	}
}

// P4.2: what lies behind the blob's end is not told, noughts or not.
func TestJoinTellsTheFirstBytes(t *testing.T) {
	c := api.Code{K: 2, M: 1}
	blob := scattered(32, 5)
	for size := 17; size <= 32; size++ {
		joined(t, c, blob[:size], cut(t, c, blob))
	}
}

// P4.2
func TestJoinRefuses(t *testing.T) {
	c := api.Code{K: 2, M: 2}
	all := cut(t, c, scattered(20, 1))
	for _, no := range noCodes() {
		for _, shards := range [][][]byte{nil, {}, all, make([][]byte, 4), make([][]byte, 256)} {
			refused(t, "no code", api.ErrArg)(Join(no, 20, shards))
			refused(t, "no code", api.ErrArg)(Join(no, 0, shards))
		}
	}
	for _, size := range noSizes() {
		refused(t, "no size", api.ErrArg)(Join(c, size, all))
		refused(t, "no size", api.ErrArg)(Join(c, size, nil))
		refused(t, "no size, and too few", api.ErrArg)(Join(c, size, make([][]byte, 4)))
	}
	for name, shards := range map[string][][]byte{
		"nil": nil, "empty": {}, "the data": all[:2], "too few": all[:3], "too many": append(slices.Clone(all), all[0]),
		"one empty too many": append(slices.Clone(all), nil), "far too many": make([][]byte, 1<<20), "too few empty": make([][]byte, 3),
		"the first shorter": {all[0][:15], all[1], all[2], all[3]}, "the last shorter": {all[0], all[1], all[2], all[3][:15]},
		"the last longer": {all[0], all[1], nil, make([]byte, 17)}, "all shorter": {all[0][:8], all[1][:8], all[2][:8], all[3][:8]},
		"few and shorter": {nil, nil, nil, all[3][:1]}, "few and longer": {nil, make([]byte, 24), nil, nil},
	} {
		refused(t, name, api.ErrArg)(Join(c, 20, shards))
	}
	// Shards of another size's length.
	for _, size := range []int{0, 1, 16, 33, 50, 400} {
		refused(t, "another size", api.ErrArg)(Join(c, size, all))
	}
}

// P4.2
func TestJoinOfTooFew(t *testing.T) {
	for _, c := range []api.Code{{K: 1}, {K: 1, M: 2}, {K: 2, M: 1}, {K: 3, M: 2}} {
		for _, size := range []int{0, 1, 20, 400} {
			all := cut(t, c, scattered(size, 1))
			for there := range c.K {
				choices(all, there, func(some [][]byte) { refused(t, "too few", api.ErrFew)(Join(c, size, some)) })
			}
		}
	}
	wide := make([][]byte, 255)
	for i := range 127 {
		wide[2*i] = make([]byte, 8)
	}
	refused(t, "too few of many", api.ErrFew)(Join(api.Code{K: 128, M: 127}, 400, wide))
}

// P4.4, for blobs of one size: noughts at a blob's end are like those that
// fill it up, and only its size tells them apart.
func TestBlobsThatPart(t *testing.T) {
	for _, c := range []api.Code{{K: 1}, {K: 1, M: 1}, {K: 2, M: 1}, {K: 3, M: 2}} {
		blob := scattered(50, 3)
		all := cut(t, c, blob)
		for i := range blob {
			for _, turn := range []byte{1, 0x80, blob[i]} {
				other := slices.Clone(blob)
				other[i] ^= turn
				if same(cut(t, c, other), all) {
					t.Errorf("%v: byte %d turned by %x, the shards are the same", c, i, turn)
				}
			}
		}
	}
}
