package reed

import (
	"bytes"
	"math"
	"slices"
	"testing"

	"amphora/api"
)

func same(a, b [][]byte) bool { return slices.EqualFunc(a, b, bytes.Equal) }

// scattered is texts of bytes that hang on the seed alone.
func scattered(texts, length int, seed uint32) [][]byte {
	a := make([][]byte, texts)
	for i := range a {
		a[i] = make([]byte, length)
		for k := range a[i] {
			seed = seed*1664525 + 1013904223
			a[i][k] = byte(seed >> 24)
		}
	}
	return a
}

// product is two numbers' in the field, told without package galois.
func product(a, b byte) byte {
	var p byte
	for ; b > 0; b >>= 1 {
		if b&1 == 1 {
			p ^= a
		}
		high := a >> 7
		a = a<<1 ^ 0x1d*high
	}
	return p
}

// inverses is each number's, told without package galois.
func inverses() (l [256]byte) {
	for a := 1; a < 256; a++ {
		for b := 1; b < 256; b++ {
			if product(byte(a), byte(b)) == 1 {
				l[a] = byte(b)
			}
		}
	}
	return l
}

// byDefinition is all shards of the data, told without packages galois and
// matrix: below the data a row's factors are the inverses of i + k.
func byDefinition(c api.Code, data [][]byte) [][]byte {
	inverse := inverses()
	var all [][]byte
	for _, text := range data {
		all = append(all, slices.Clone(text))
	}
	for i := c.K; i < c.K+c.M; i++ {
		sum := make([]byte, len(data[0]))
		for k, text := range data {
			for at, x := range text {
				sum[at] ^= product(inverse[byte(i)^byte(k)], x)
			}
		}
		all = append(all, sum)
	}
	return all
}

// must is a call's shards, where it may have no error.
func must(t *testing.T) func(l [][]byte, e api.Errno) [][]byte {
	return func(l [][]byte, e api.Errno) [][]byte {
		t.Helper()
		if e != api.OK {
			t.Fatalf("error %d", e)
		}
		return l
	}
}

// mustOne is a call's shard, where it may have no error.
func mustOne(t *testing.T) func(l []byte, e api.Errno) []byte {
	return func(l []byte, e api.Errno) []byte {
		t.Helper()
		if e != api.OK {
			t.Fatalf("error %d", e)
		}
		return l
	}
}

// refused has a call answer no shards, and the error.
func refused(t *testing.T, name string, want api.Errno) func(l [][]byte, e api.Errno) {
	return func(l [][]byte, e api.Errno) {
		t.Helper()
		if e != want || len(l) != 0 {
			t.Errorf("%s: %d shards, error %d, want none and %d", name, len(l), e, want)
		}
	}
}

// refusedOne has a call answer no shard, and the error.
func refusedOne(t *testing.T, name string, want api.Errno) func(l []byte, e api.Errno) {
	return func(l []byte, e api.Errno) {
		t.Helper()
		if e != want || len(l) != 0 {
			t.Errorf("%s: %d bytes, error %d, want none and %d", name, len(l), e, want)
		}
	}
}

// codes is some that may be: the edges, and between them.
func codes() []api.Code {
	return []api.Code{
		{K: 1}, {K: 1, M: 1}, {K: 2}, {K: 2, M: 1}, {K: 1, M: 2}, {K: 4, M: 2}, {K: 3, M: 4}, {K: 12, M: 4},
		{K: 255}, {K: 254, M: 1}, {K: 1, M: 254}, {K: 128, M: 127}, {K: 127, M: 128},
	}
}

// noCodes is some that may not be, those whose sums wrap round among them.
func noCodes() []api.Code {
	return []api.Code{
		{}, {K: 0, M: 1}, {K: 0, M: 255}, {K: -1, M: 3}, {K: 3, M: -1}, {K: 256, M: -1}, {K: -1, M: 256}, {K: -2, M: -2},
		{K: 256}, {K: 255, M: 1}, {K: 250, M: 6}, {K: 1, M: 255}, {K: 128, M: 128},
		{K: math.MaxInt}, {K: math.MinInt}, {K: 1, M: math.MaxInt}, {K: 1, M: math.MinInt},
		{K: math.MaxInt, M: math.MaxInt}, {K: math.MinInt, M: math.MinInt}, {K: math.MaxInt, M: math.MinInt}, {K: math.MinInt, M: math.MaxInt},
		{K: math.MinInt, M: math.MinInt + 3}, {K: math.MaxInt, M: 2 - math.MaxInt}, {K: math.MaxInt - 3, M: math.MaxInt - 3},
	}
}

// without is a copy of shards with some missing; half of them nil, half empty.
func without(shards [][]byte, missing ...int) [][]byte {
	l := slices.Clone(shards)
	for n, i := range missing {
		l[i] = nil
		if n%2 == 1 {
			l[i] = []byte{}
		}
	}
	return l
}

// P3.1
func TestCan(t *testing.T) {
	for _, c := range codes() {
		if !Can(c) {
			t.Errorf("%v may not be", c)
		}
	}
	for _, c := range noCodes() {
		if Can(c) {
			t.Errorf("%v may be", c)
		}
	}
	for k := -2; k <= 258; k++ {
		for m := -2; m <= 258; m++ {
			if want := k >= 1 && m >= 0 && k+m <= 255; Can(api.Code{K: k, M: m}) != want {
				t.Fatalf("K %d, M %d: %v", k, m, !want)
			}
		}
	}
}

// P3.1, the chapter's example
func TestEncodeExample(t *testing.T) {
	got := must(t)(Encode(api.Code{K: 2, M: 1}, [][]byte{{1}, {2}}))
	// f4 times 2 is f5.
	if want := [][]byte{{1}, {2}, {0x8e ^ 0xf5}}; !same(got, want) {
		t.Errorf("%x, want %x", got, want)
	}
}

// P3.1; a matrix is at most 255 wide, a shard may be longer.
func TestEncodeIsTheGeneratorTimesTheData(t *testing.T) {
	for _, c := range codes() {
		for _, length := range []int{1, 2, 8, 254, 255, 256, 257, 1021} {
			if c.K*c.M > 1000 && length > 300 {
				continue
			}
			data := scattered(c.K, length, uint32(length))
			if got := must(t)(Encode(c, data)); !same(got, byDefinition(c, data)) {
				t.Errorf("%v, length %d: other shards", c, length)
			}
		}
	}
	data := scattered(3, 100003, 5)
	if c := (api.Code{K: 3, M: 2}); !same(must(t)(Encode(c, data)), byDefinition(c, data)) {
		t.Error("other shards of long texts")
	}
}

// P3.1
func TestEncodeOfNoughtsAndAllBytes(t *testing.T) {
	c := api.Code{K: 2, M: 2}
	if got := must(t)(Encode(c, [][]byte{{0, 0}, {0, 0}})); !same(got, [][]byte{{0, 0}, {0, 0}, {0, 0}, {0, 0}}) {
		t.Errorf("of noughts: %x", got)
	}
	up, down := make([]byte, 256), make([]byte, 256)
	for i := range up {
		up[i], down[i] = byte(i), byte(255-i)
	}
	data := [][]byte{up, down}
	if got := must(t)(Encode(c, data)); !same(got, byDefinition(c, data)) {
		t.Error("other shards of all bytes")
	}
}

// P3.1
func TestEncodeRefuses(t *testing.T) {
	for _, c := range noCodes() {
		for _, data := range [][][]byte{nil, {}, {{1}}, {{1}, {2}, {3}}, scattered(255, 1, 1), scattered(256, 1, 1)} {
			refused(t, "no code", api.ErrArg)(Encode(c, data))
		}
	}
	c := api.Code{K: 3, M: 2}
	for name, data := range map[string][][]byte{
		"nil": nil, "empty": {}, "too few": {{1}, {2}}, "too many": {{1}, {2}, {3}, {4}}, "one empty too many": {{1}, {2}, {3}, {}}, "one nil ahead": {nil, {1}, {2}, {3}}, "all shards": scattered(5, 1, 1),
		"far too many": make([][]byte, 1<<20),
		"nil texts":    {nil, nil, nil}, "empty texts": {{}, {}, {}},
		"the first empty": {{}, {1}, {2}}, "one nil": {{1}, nil, {2}}, "the last empty": {{1}, {2}, {}},
		"the first shorter": {{1}, {2, 3}, {4, 5}}, "the first longer": {{1, 1}, {2}, {3}},
		"the second longer": {{1}, {2, 3}, {4}}, "the last shorter": {{1, 1}, {2, 3}, {4}}, "the last longer": {{1}, {2}, {3, 4}},
	} {
		refused(t, name, api.ErrArg)(Encode(c, data))
	}
	refused(t, "one empty text", api.ErrArg)(Encode(api.Code{K: 1}, [][]byte{{}}))
	refused(t, "one text of none", api.ErrArg)(Encode(api.Code{K: 1, M: 254}, [][]byte{nil}))
}

// choices goes through all ways to take k of n, in order.
func choices(n, k int, tell func(taken []int)) {
	var taken []int
	var from func(i int)
	from = func(i int) {
		if len(taken) == k {
			tell(taken)
			return
		}
		for ; i < n; i++ {
			taken = append(taken, i)
			from(i + 1)
			taken = taken[:len(taken)-1]
		}
	}
	from(0)
}

// only is a copy of shards of which but some are missing.
func only(shards [][]byte, taken []int) [][]byte {
	l := make([][]byte, len(shards))
	for _, i := range taken {
		l[i] = shards[i]
	}
	return l
}

// P3.4, P3.2
func TestAnyKTellAll(t *testing.T) {
	for width := 1; width <= 8; width++ {
		for k := 1; k <= width; k++ {
			c := api.Code{K: k, M: width - k}
			all := byDefinition(c, scattered(k, 3, uint32(width)))
			choices(width, k, func(taken []int) {
				some := only(all, taken)
				if got := must(t)(Decode(c, some)); !same(got, all) {
					t.Fatalf("%v, of %v: other shards", c, taken)
				}
				for i := range width {
					if got := mustOne(t)(Repair(c, some, i)); !bytes.Equal(got, all[i]) {
						t.Fatalf("%v, of %v: another shard %d", c, taken, i)
					}
				}
			})
		}
	}
}

// P3.4, P3.2
func TestAnyKOfWideCodes(t *testing.T) {
	for _, c := range codes() {
		width := c.K + c.M
		all := byDefinition(c, scattered(c.K, 2, 9))
		for stride := 1; stride <= 4; stride++ { // the last ones, each second one and on
			taken := map[int]int{}
			for i := width - 1; len(taken) < c.K; i-- {
				at := ((i*stride)%width + width) % width
				for taken[at] > 0 {
					at = (at + 1) % width
				}
				taken[at] = 1
			}
			some := make([][]byte, width)
			for i := range taken {
				some[i] = all[i]
			}
			if got := must(t)(Decode(c, some)); !same(got, all) {
				t.Fatalf("%v, stride %d: other shards", c, stride)
			}
			for _, i := range []int{0, width / 2, width - 1} {
				if got := mustOne(t)(Repair(c, some, i)); !bytes.Equal(got, all[i]) {
					t.Fatalf("%v, stride %d: another shard %d", c, stride, i)
				}
			}
		}
	}
}

// P3.2; lengths beyond a matrix's width.
func TestDecodeOfLongShards(t *testing.T) {
	c := api.Code{K: 3, M: 2}
	for _, length := range []int{255, 256, 257, 5000} {
		all := byDefinition(c, scattered(3, length, 4))
		if got := must(t)(Decode(c, without(all, 0, 2))); !same(got, all) {
			t.Errorf("length %d: other shards", length)
		}
		if got := mustOne(t)(Repair(c, without(all, 0, 2), 2)); !bytes.Equal(got, all[2]) {
			t.Errorf("length %d: another shard", length)
		}
	}
}

// P3.2: the first K that are there count; the others are told anew, even
// where they are there and say otherwise.
func TestTheFirstThereCount(t *testing.T) {
	c := api.Code{K: 2, M: 3}
	all, other := byDefinition(c, [][]byte{{1, 2}, {3, 4}}), byDefinition(c, [][]byte{{9, 8}, {7, 6}})
	choices(5, 2, func(first []int) {
		some := make([][]byte, 5)
		for i := range some {
			if slices.Contains(first, i) {
				some[i] = all[i]
			} else if i > first[1] {
				some[i] = other[i]
			}
		}
		if got := must(t)(Decode(c, some)); !same(got, all) {
			t.Errorf("%v: %x, want %x", first, got, all)
		}
		for i := range 5 {
			if got := mustOne(t)(Repair(c, some, i)); !bytes.Equal(got, all[i]) {
				t.Errorf("%v, shard %d: %x, want %x", first, i, got, all[i])
			}
		}
	})
}

// P3.2: a byte that is turned in one of the first K is another data's.
func TestDecodeOfATurnedShard(t *testing.T) {
	c := api.Code{K: 2, M: 1}
	all := byDefinition(c, [][]byte{{1, 2}, {3, 4}})
	all[1] = []byte{3, 5}
	want := byDefinition(c, [][]byte{{1, 2}, {3, 5}})
	if got := must(t)(Decode(c, all)); !same(got, want) {
		t.Errorf("%x, want %x", got, want)
	}
}

// notSome is what are not some shards of K 3, M 2, by why not; of all of them
// but the lists of a wrong length, 3 or more are there.
func notSome() map[string][][]byte {
	return map[string][][]byte{
		"nil": nil, "empty": {}, "the data": scattered(3, 2, 1), "too few": scattered(4, 2, 1), "too many": scattered(6, 2, 1),
		"too many empty": make([][]byte, 6), "too few empty": make([][]byte, 4), "far too many": make([][]byte, 1<<20),
		"the first shorter":          {{1}, {1, 2}, {1, 2}, {1, 2}, {1, 2}},
		"the last shorter":           {{1, 2}, {1, 2}, {1, 2}, {1, 2}, {1}},
		"the last longer":            {{1, 2}, {1, 2}, {1, 2}, nil, {1, 2, 3}},
		"the first that is there":    {nil, {1}, {1, 2}, {1, 2}, {1, 2}},
		"one in the midst":           {{1}, {2}, {3, 4}, {5}, nil},
		"one behind the first three": {{1}, {2}, {3}, {4, 5}, nil},
	}
}

// P3.2
func TestDecodeAndRepairRefuse(t *testing.T) {
	for _, c := range noCodes() {
		for _, shards := range [][][]byte{nil, {}, {{1}}, {{1}, {2}, {3}}, scattered(255, 1, 1), scattered(256, 1, 1), make([][]byte, 256)} {
			refused(t, "no code", api.ErrArg)(Decode(c, shards))
			for _, i := range []int{0, 1, -1, math.MaxInt, math.MinInt} {
				refusedOne(t, "no code", api.ErrArg)(Repair(c, shards, i))
			}
		}
	}
	c := api.Code{K: 3, M: 2}
	for name, shards := range notSome() {
		refused(t, name, api.ErrArg)(Decode(c, shards))
		refusedOne(t, name, api.ErrArg)(Repair(c, shards, 1))
		refusedOne(t, name, api.ErrArg)(Repair(c, shards, 5))
	}
}

// P3.2
func TestTooFew(t *testing.T) {
	for _, c := range codes() {
		all := scattered(c.K+c.M, 2, 3)
		for there := range c.K {
			if there > 3 && there < c.K-3 {
				continue
			}
			fromTheEnd := make([][]byte, c.K+c.M)
			copy(fromTheEnd[c.K+c.M-there:], all)
			fromTheFirst := make([][]byte, c.K+c.M)
			copy(fromTheFirst, all[:there])
			for _, shards := range [][][]byte{fromTheEnd, fromTheFirst} {
				refused(t, "too few", api.ErrFew)(Decode(c, shards))
				refusedOne(t, "too few", api.ErrFew)(Repair(c, shards, 0))
				refusedOne(t, "too few", api.ErrFew)(Repair(c, shards, c.K+c.M-1))
				refusedOne(t, "too few, and no place", api.ErrArg)(Repair(c, shards, c.K+c.M))
				refusedOne(t, "too few, and no place", api.ErrArg)(Repair(c, shards, -1))
			}
		}
	}
	// Texts of unlike lengths are told ahead of too few.
	few := [][]byte{{1}, {1, 2}, nil, nil, nil}
	refused(t, "few and unlike", api.ErrArg)(Decode(api.Code{K: 3, M: 2}, few))
	refusedOne(t, "few and unlike", api.ErrArg)(Repair(api.Code{K: 3, M: 2}, few, 0))
}

// P3.2
func TestRepairRefusesAWrongPlace(t *testing.T) {
	for _, c := range codes() {
		all := byDefinition(c, scattered(c.K, 1, 3))
		for _, i := range []int{-1, -2, c.K + c.M, c.K + c.M + 1, 256, -256, math.MaxInt, math.MinInt} {
			refusedOne(t, "a wrong place", api.ErrArg)(Repair(c, all, i))
		}
	}
}

// P3.3
func TestRight(t *testing.T) {
	for _, c := range codes() {
		all := byDefinition(c, scattered(c.K, 3, 6))
		if !Right(c, all) {
			t.Errorf("%v: Encode's are not right", c)
		}
		for i := range all {
			if Right(c, without(all, i)) {
				t.Errorf("%v: right without %d", c, i)
			}
		}
		if Right(c, all[:len(all)-1]) || Right(c, append(slices.Clone(all), all[0])) || Right(c, append(slices.Clone(all), nil)) {
			t.Errorf("%v: right with one too few or too many", c)
		}
	}
	for _, c := range noCodes() {
		for _, shards := range [][][]byte{nil, {}, {{1}}, {{0}, {0}, {0}}, scattered(255, 1, 1), make([][]byte, 256)} {
			if Right(c, shards) {
				t.Errorf("%v is right", c)
			}
		}
	}
	for name, shards := range notSome() {
		if Right(api.Code{K: 3, M: 2}, shards) {
			t.Errorf("%s: right", name)
		}
	}
	if Right(api.Code{K: 2, M: 1}, make([][]byte, 3)) || Right(api.Code{K: 1}, [][]byte{{}}) || Right(api.Code{K: 1}, nil) {
		t.Error("right with nothing there")
	}
}

// P3.3: with M 0 all data of one length are right.
func TestRightWithoutMore(t *testing.T) {
	if c := (api.Code{K: 2}); !Right(c, [][]byte{{1, 2}, {3, 4}}) || Right(c, [][]byte{{1, 2}, {3}}) || Right(c, [][]byte{{1}, {3, 4}}) {
		t.Error("M 0")
	}
}

// P3.3: a shard that goes on, or ends too early, is not Encode's.
func TestRightOfUnlikeLengths(t *testing.T) {
	c := api.Code{K: 2, M: 2}
	all := byDefinition(c, scattered(2, 3, 8))
	for i := range all {
		l := slices.Clone(all)
		l[i] = append(slices.Clone(all[i]), 0)
		if Right(c, l) {
			t.Errorf("shard %d is longer: right", i)
		}
		l[i] = all[i][:2]
		if Right(c, l) {
			t.Errorf("shard %d is shorter: right", i)
		}
	}
}

// P3.6
func TestATurnedByteIsNotRight(t *testing.T) {
	for _, c := range []api.Code{{K: 1, M: 1}, {K: 2, M: 1}, {K: 1, M: 3}, {K: 5, M: 3}} {
		all := byDefinition(c, scattered(c.K, 4, 7))
		for i := range all {
			for at := range all[i] {
				for turn := 1; turn < 256; turn++ {
					all[i][at] ^= byte(turn)
					if Right(c, all) {
						t.Fatalf("%v: right with byte %d of shard %d turned by %x", c, at, i, turn)
					}
					all[i][at] ^= byte(turn)
				}
			}
		}
	}
	for _, c := range []api.Code{{K: 254, M: 1}, {K: 128, M: 127}, {K: 1, M: 254}} {
		all := byDefinition(c, scattered(c.K, 1, 7))
		for i := range all {
			if i%16 > 0 && i < 250 {
				continue
			}
			all[i][0] ^= 0x40
			if Right(c, all) {
				t.Fatalf("%v: right with shard %d turned", c, i)
			}
			all[i][0] ^= 0x40
		}
	}
}

// sums is texts added up, place by place.
func sums(a, b [][]byte) [][]byte {
	l := make([][]byte, len(a))
	for i := range l {
		l[i] = slices.Clone(a[i])
		for k := range l[i] {
			l[i][k] ^= b[i][k]
		}
	}
	return l
}

// P3.5
func TestLinear(t *testing.T) {
	for _, c := range codes() {
		a, b := scattered(c.K, 5, 1), scattered(c.K, 5, 2)
		got := must(t)(Encode(c, sums(a, b)))
		if want := sums(must(t)(Encode(c, a)), must(t)(Encode(c, b))); !same(got, want) {
			t.Errorf("%v: the sum's shards are not the shards' sums", c)
		}
	}
}
