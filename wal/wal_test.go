package wal_test

import (
	"encoding/hex"
	"slices"
	"strings"
	"testing"

	"amphora/api"
	"amphora/plate"
	"amphora/wal"
)

// byHand is the bytes of digits that stand in groups.
func byHand(t *testing.T, digits string) []byte {
	t.Helper()
	b, err := hex.DecodeString(strings.ReplaceAll(digits, " ", ""))
	if err != nil {
		t.Fatal(err)
	}
	return b
}

// P7.1: a plate of noughts begins with a head of number 1, in sector 1.
func TestOpenOfNoughts(t *testing.T) {
	for _, sectors := range []int{6, 7, 8, 60, api.MaxSectors} {
		p := newPlate(t, sectors)
		w := tells(t, "noughts", p, nil)
		counts(t, "noughts", w, 1, 0, sectors-2)
		looks(t, "noughts", p, imageOf(sectors, head{1, 1, 0, 1}))
	}
}

// The head's bytes, one by one.
func TestHeadByHand(t *testing.T) {
	p := newPlate(t, 6)
	opened(t, p)
	b, _ := p.Read(1)
	want := byHand(t, "68 0000000000000001 0000000000000001 0000000000000000 0000000000000001"+strings.Repeat("00", 26))
	if !slices.Equal(b[:59], want) || b[63] != 0xa7 {
		t.Errorf("the head is\n%x, want\n%x and a7 at the end", b, want)
	}
	if want := (head{1, 1, 0, 1}).sector(); !slices.Equal(b, want) {
		t.Errorf("the head is\n%x, want\n%x", b, want)
	}
}

// The chapter's example, and the bytes of both sectors.
func TestExample(t *testing.T) {
	p := newPlate(t, 6)
	w, _ := opened(t, p)
	counts(t, "S is 4", w, 1, 0, 4)
	rec := slices.Repeat([]byte{0xee}, 41)
	n, e := w.Append(rec)
	if n != 1 || e != api.OK {
		t.Fatalf("Append: %d, error %d", n, e)
	}
	counts(t, "two sectors", w, 1, 1, 2)
	if !slices.Equal(p.Dirty(), []int{2, 3}) {
		t.Fatalf("Append is durable, or elsewhere: dirty %v", p.Dirty())
	}
	one, _ := p.Read(2)
	two, _ := p.Read(3)
	wantOne := byHand(t, "72 0000000000000001 28 01 00"+strings.Repeat("ee", 40)+"00000000000000")
	wantTwo := byHand(t, "72 0000000000000001 01 00 01 ee"+strings.Repeat("00", 46))
	if !slices.Equal(one[:59], wantOne) || !slices.Equal(two[:59], wantTwo) || one[63] != 0xa7 || two[63] != 0xa7 {
		t.Errorf("sectors\n%x\n%x, want\n%x\n%x and a7 at the ends", one, two, wantOne, wantTwo)
	}
}

// P7.1: plates that can't have a ring.
func TestOpenRefusesPlates(t *testing.T) {
	for _, p := range []*plate.Plate{nil, {}} {
		if w, recs, e := wal.Open(p); w != nil || len(recs) > 0 || e != api.ErrNil {
			t.Errorf("no plate: error %d", e)
		}
	}
	for sectors := 1; sectors <= 8; sectors++ {
		p := newPlate(t, sectors)
		if sectors < 6 {
			refuses(t, "few sectors", p, api.ErrArg)
			refuses(t, "few sectors", plateOf(t, bare(sectors)), api.ErrArg)
		}
		p.Fail()
		refuses(t, "a plate that has failed", p, api.ErrDead)
	}
	five := imageOf(6, head{1, 1, 0, 1}, record(10, 1))[:5]
	refuses(t, "five sectors with a log", plateOf(t, five), api.ErrArg)
}

// P7.1: no head is right, and something was written.
func TestOpenOfNoLog(t *testing.T) {
	for sector := range 6 {
		for at := range 64 {
			image := bare(6)
			image[sector] = turned(image[sector], at, 1)
			refuses(t, "one byte", plateOf(t, image), api.ErrLog)
		}
	}
	for name, image := range map[string][][]byte{
		"records without a head": append(bare(2), imageOf(6, head{1, 1, 0, 1}, record(99, 1))[2:]...),
		"letters":                {[]byte(strings.Repeat("a", 64)), noughts(), noughts(), noughts(), noughts(), noughts()},
		"an odd head in 0":       {head{1, 1, 0, 1}.sector(), noughts(), noughts(), noughts(), noughts(), noughts()},
		"an even head in 1":      {noughts(), head{2, 1, 0, 1}.sector(), noughts(), noughts(), noughts(), noughts()},
		"a head in the ring":     {noughts(), noughts(), noughts(), head{1, 1, 0, 1}.sector(), noughts(), noughts()},
	} {
		t.Run(name, func(t *testing.T) { refuses(t, name, plateOf(t, image), api.ErrLog) })
	}
	p := newPlate(t, 6)
	is(t, "Write", p.Write(4, turned(noughts(), 9, 9)), api.OK)
	refuses(t, "a dirty sector", p, api.ErrLog)
}

// P7.1: what is read counts, be it durable or not.
func TestOpenOfDirtySectors(t *testing.T) {
	recs := records(10, 50)
	p := newPlate(t, 7)
	for i, b := range imageOf(7, head{4, 9, 3, 7}, recs...) {
		is(t, "Write", p.Write(i, b), api.OK)
	}
	w := tells(t, "dirty sectors", p, recs)
	counts(t, "dirty sectors", w, 10, 8, 2)
	want := imageOf(7, head{5, 10, 3, 7}, recs...)
	want[0] = head{4, 9, 3, 7}.sector()
	looks(t, "dirty sectors", p, want)

	p = plateOf(t, imageOf(7, head{4, 9, 3, 7}, recs...))
	for i := range 7 {
		is(t, "Write", p.Write(i, noughts()), api.OK)
	}
	counts(t, "dirty noughts", tells(t, "dirty noughts", p, nil), 1, 0, 5)
	looks(t, "dirty noughts", p, imageOf(7, head{1, 1, 0, 1}))
}

// P7.1: a head's numbers at their edges: right ones, and wrong ones.
func TestHeadsAtTheEdges(t *testing.T) {
	const sectors, size = 9, 7
	for name, c := range map[string]struct {
		head
		want api.Errno
	}{
		"the least":            {head{1, 1, 0, 1}, api.OK},
		"the greatest":         {head{most - 1, most - 1, size - 1, most - size - 1}, api.OK},
		"number 0":             {head{0, 1, 0, 1}, api.ErrLog},
		"number MaxNumber":     {head{most, 1, 0, 1}, api.ErrFull},
		"number above it":      {head{most + 1, 1, 0, 1}, api.ErrLog},
		"number below 0":       {head{-1, 1, 0, 1}, api.ErrLog},
		"an even one below 0":  {head{-2, 1, 0, 1}, api.ErrLog},
		"life 0":               {head{1, 0, 0, 1}, api.ErrLog},
		"life MaxNumber":       {head{1, most, 0, 1}, api.ErrFull},
		"life above it":        {head{1, most + 1, 0, 1}, api.ErrLog},
		"life below 0":         {head{1, -1, 0, 1}, api.ErrLog},
		"place S":              {head{1, 1, size, 1}, api.ErrLog},
		"place below 0":        {head{1, 1, -1, 1}, api.ErrLog},
		"first 0":              {head{1, 1, 0, 0}, api.ErrLog},
		"first below 0":        {head{1, 1, 0, -1}, api.ErrLog},
		"first MaxNumber":      {head{1, 1, 0, most}, api.ErrFull},
		"first above it":       {head{1, 1, 0, most + 1}, api.ErrLog},
		"first and S are it":   {head{1, 1, 0, most - size}, api.ErrFull},
		"first and S next":     {head{1, 1, 0, most - size - 1}, api.OK},
		"first and S above it": {head{1, 1, 0, most - size + 1}, api.ErrFull},
	} {
		t.Run(name, func(t *testing.T) {
			image := bare(sectors)
			image[c.number&1] = c.sector()
			p := plateOf(t, image)
			if c.want != api.OK {
				refuses(t, name, p, c.want)
				return
			}
			w := tells(t, name, p, nil)
			counts(t, name, w, c.life+1, c.first-1, size)
			image[(c.number+1)%2] = head{c.number + 1, c.life + 1, c.place, c.first}.sector()
			looks(t, name, p, image)
		})
	}
}

// P7.1: of two heads the greater one counts; a wrong one does not.
func TestTwoHeads(t *testing.T) {
	rec, other := record(30, 1), record(50, 2)
	even, odd := head{6, 3, 0, 5}, head{7, 4, 2, 9}
	both := func(even, odd []byte) *plate.Plate {
		image := imageOf(8, head{6, 3, 0, 5}, rec)
		copy(image[4:], imageOf(8, head{7, 4, 2, 9}, other)[4:])
		image[0], image[1] = even, odd
		return plateOf(t, image)
	}
	counts(t, "the odd one", tells(t, "the odd one", both(even.sector(), odd.sector()), [][]byte{other}), 5, 9, 4)
	counts(t, "the even one alone", tells(t, "the even one alone", both(even.sector(), noughts()), [][]byte{rec}), 4, 5, 5)
	counts(t, "the odd one alone", tells(t, "the odd one alone", both(noughts(), odd.sector()), [][]byte{other}), 5, 9, 4)
	even.number = 8
	counts(t, "the even one", tells(t, "the even one", both(even.sector(), odd.sector()), [][]byte{rec}), 4, 5, 5)
	even.number = 1000
	counts(t, "far ahead", tells(t, "far ahead", both(even.sector(), odd.sector()), [][]byte{rec}), 4, 5, 5)

	even.number = most
	refuses(t, "a greater one at the end", both(even.sector(), odd.sector()), api.ErrFull)
	even.number, odd.number = 2, most-1
	p := both(even.sector(), odd.sector())
	tells(t, "next to the end", p, [][]byte{other})
	refuses(t, "at the end", p, api.ErrFull)
}

// P7.1: a head of which one byte is turned, or with other bytes beside right
// ones, is none; the other one counts.
func TestWrongHeads(t *testing.T) {
	recs := records(41)
	old := imageOf(6, head{6, 3, 1, 5}, recs...)
	right := head{7, 4, 3, 7}.sector()
	for at := range 64 {
		for _, by := range []byte{0x01, 0x80, 0xff} {
			image := slices.Clone(old)
			image[1] = turned(right, at, by)
			counts(t, "turned", tells(t, "turned", plateOf(t, image), recs), 4, 5, 2)
			image[0] = noughts()
			refuses(t, "no other head", plateOf(t, image), api.ErrLog)
		}
	}
	for at := 33; at < 59; at++ {
		image := slices.Clone(old)
		image[1] = resealed(right, at, 1)
		tells(t, "something behind its numbers", plateOf(t, image), recs)
	}
	for _, first := range []byte{0x00, 0x67, 0x69, 0x72, 0xe8} {
		image := slices.Clone(old)
		image[1] = resealed(right, 0, first)
		tells(t, "another first byte", plateOf(t, image), recs)
	}
}

// P7.1: records end at the first sector that is not the next one's.
func TestWrongSectors(t *testing.T) {
	recs := records(30, 90, 20)
	good := imageOf(8, head{3, 2, 4, 7}, recs...) // their sectors: 6; 7, 2, 3; 4
	for at := range 64 {
		for sector, left := range map[int]int{6: 0, 7: 1, 2: 1, 3: 1, 4: 2} {
			image := slices.Clone(good)
			image[sector] = turned(good[sector], at, 0x41)
			p := plateOf(t, image)
			w := tells(t, "turned", p, recs[:left])
			counts(t, "turned", w, 3, 6+left, []int{6, 5, 2}[left])
			want := imageOf(8, head{4, 3, 4, 7}, recs[:left]...)
			want[1] = good[1]
			looks(t, "turned", p, want)
		}
	}
}

// P7.1: sectors that are sound, but not a record's.
func TestSectorsOfNoRecord(t *testing.T) {
	full := record(40, 5)
	long := sectorsOf(1, record(80, 6))
	for name, l := range map[string][][]byte{
		"none of its bytes":       {piece(1, 0, 1, 1)},
		"one byte too many":       {piece(1, 41, 1, 1, record(41, 5)...)},
		"255 bytes":               {piece(1, 255, 1, 1, record(47, 5)...)},
		"number 0":                {piece(0, 40, 1, 1, full...)},
		"another number":          {piece(2, 40, 1, 1, full...)},
		"a number below 0":        {piece(-1, 40, 1, 1, full...)},
		"not the first":           {piece(1, 40, 0, 1, full...)},
		"first by 2":              {piece(1, 40, 2, 1, full...)},
		"last by 2":               {piece(1, 40, 1, 2, full...), piece(1, 40, 0, 1, full...)},
		"not the last":            {piece(1, 40, 1, 0, full...)},
		"two firsts":              {piece(1, 40, 1, 0, full...), piece(1, 40, 1, 1, full...)},
		"39 bytes ahead of more":  {piece(1, 39, 1, 0, full[:39]...), piece(1, 40, 0, 1, full...)},
		"an empty last one":       {long[0], piece(1, 0, 0, 1)},
		"the next one of another": {long[0], piece(2, 40, 0, 1, full...)},
		"bytes behind its bytes":  {piece(1, 39, 1, 1, full...)},
		"something behind":        {resealed(piece(1, 40, 1, 1, full...), 58, 1)},
		"a head":                  {head{1, 1, 0, 1}.sector()},
		"another first byte":      {resealed(piece(1, 40, 1, 1, full...), 0, 0x73)},
		"its end alone":           {long[1]},
		"its end ahead":           {long[1], long[0]},
	} {
		t.Run(name, func(t *testing.T) {
			image := imageOf(8, head{3, 2, 5, 1})
			for i, b := range l {
				image[2+(5+i)%6] = b
			}
			p := plateOf(t, image)
			counts(t, name, tells(t, name, p, nil), 3, 0, 6)
			want := imageOf(8, head{4, 3, 5, 1})
			want[1] = image[1]
			looks(t, name, p, want)
		})
	}
}

// P7.1: records go on round the ring's end, and stop at the ring's size; what
// has the next number but stands elsewhere is none.
func TestRecordsRoundTheRing(t *testing.T) {
	for place := range 4 {
		recs := records(81, 1)
		h := head{1, 1, place, 1}
		p := plateOf(t, imageOf(6, h, recs...))
		counts(t, "a full ring", tells(t, "a full ring", p, recs), 2, 2, 0)
		image := imageOf(6, h, recs[0])
		image[2+(place+3)%4] = piece(3, 1, 1, 1, 9)
		counts(t, "a gap", tells(t, "a gap", plateOf(t, image), recs[:1]), 2, 1, 1)
		image = imageOf(6, h, recs[1])
		image[2+(place+2)%4] = piece(2, 1, 1, 1, 9)
		counts(t, "a hole", tells(t, "a hole", plateOf(t, image), recs[1:]), 2, 1, 3)
	}
}

// P7.1: the longest record, and one more sector.
func TestLongestRecordIsTold(t *testing.T) {
	rec := record(2000, 3)
	h := head{1, 1, 20, 1}
	counts(t, "2000 bytes", tells(t, "2000 bytes", plateOf(t, imageOf(60, h, rec)), [][]byte{rec}), 2, 1, 8)
	for length := 2001; length <= 2040; length++ {
		tells(t, "more", plateOf(t, imageOf(60, h, record(length, 3))), nil)
	}
	tells(t, "much more", plateOf(t, imageOf(60, h, record(2300, 3))), nil)
}

// P7.2: which sectors a record has, by its length.
func TestAppend(t *testing.T) {
	for _, length := range []int{1, 2, 39, 40, 41, 79, 80, 81, 1959, 1960, 1961, 1999, 2000} {
		a := newPair(t, bare(60))
		a.append(record(length, 7))
		counts(t, "one", a.wal, 1, 1, 58-(length+39)/40)
		a.append(record(40, 8))
		a.sync()
		a.append(record(41, 9))
		a.open()
	}
}

// P7.2: records that may not be.
func TestAppendRefusesRecords(t *testing.T) {
	a := newPair(t, bare(70))
	for _, rec := range [][]byte{nil, {}, record(2001, 1), record(70000, 1), record(2001, 1)[:0]} {
		if n, e := a.wal.Append(rec); n != 0 || e != api.ErrArg {
			t.Errorf("%d bytes: %d, error %d", len(rec), n, e)
		}
		a.append(rec)
	}
	a.append(record(1, 1))
}

// P7.2: a ring that is just full, and one that is too small; ErrArg comes
// ahead of ErrFull.
func TestAppendFillsTheRing(t *testing.T) {
	a := newPair(t, bare(6))
	a.append(record(161, 1))
	counts(t, "five sectors", a.wal, 1, 0, 4)
	a.append(record(160, 1))
	counts(t, "four sectors", a.wal, 1, 1, 0)
	is(t, "full", second(a.wal.Append([]byte{1})), api.ErrFull)
	is(t, "full, and wrong", second(a.wal.Append(nil)), api.ErrArg)
	is(t, "full, and wrong", second(a.wal.Append(record(2001, 1))), api.ErrArg)
	a.append([]byte{1})
	a.open()

	a = newPair(t, imageOf(6, head{1, 1, 3, 1}))
	a.append(record(80, 1))
	a.append(record(81, 2))
	a.append(record(40, 3))
	a.append(record(41, 4))
	a.append(record(40, 5))
	counts(t, "full", a.wal, 2, 3, 0)
	a.append(record(1, 6))
	a.open()
}

func second[A, B any](_ A, b B) B { return b }

// P7.2: Sync makes all durable, also if nothing was written.
func TestSync(t *testing.T) {
	a := newPair(t, bare(8))
	a.sync()
	a.append(record(41, 1))
	a.append(record(41, 2))
	if len(a.mine.Dirty()) != 4 {
		t.Fatalf("dirty %v", a.mine.Dirty())
	}
	a.sync()
	a.sync()
	tells(t, "a crash", crashed(a.mine, nil, -1, 0), [][]byte{record(41, 1), record(41, 2)})
}

// crashed is another plate, that was a copy and has crashed.
func crashed(p *plate.Plate, keep []int, torn, n int) *plate.Plate {
	q := p.Copy()
	q.Crash(keep, torn, n)
	return q
}

// P7.3: checkpoints of no record, of one and of many, from any place on.
func TestCheckpoint(t *testing.T) {
	for place := range 8 {
		for _, l := range [][]int{nil, {1}, {40, 41}, {1, 1, 1}, {120}, {121}, {160, 1}, {2000}, {1, 40, 80}} {
			a := newPair(t, imageOf(10, head{1, 1, place, 1}))
			a.append(record(70, 1))
			a.append(record(80, 2))
			a.sync()
			a.append(record(5, 3))
			a.checkpoint(records(l...)...)
			a.append(record(39, 4))
			a.checkpoint(records(l...)...)
			a.checkpoint()
			a.checkpoint(records(160, 80)...)
			a.open()
		}
	}
}

// P7.3: what a plate looks like behind a checkpoint, by hand.
func TestCheckpointByHand(t *testing.T) {
	p := newPlate(t, 8)
	w, _ := opened(t, p)
	for _, rec := range records(41, 3) {
		w.Append(rec)
	}
	is(t, "Checkpoint", w.Checkpoint(records(50)), api.OK)
	counts(t, "of one", w, 1, 3, 4)
	want := imageOf(8, head{2, 1, 3, 3}, records(50)...)
	want[1] = head{1, 1, 0, 1}.sector()
	looks(t, "of one", p, want)

	is(t, "Checkpoint", w.Checkpoint(nil), api.OK)
	counts(t, "of none", w, 1, 3, 6)
	want = bare(8)
	want[0], want[1] = head{2, 1, 3, 3}.sector(), head{3, 1, 5, 4}.sector()
	looks(t, "of none", p, want)

	is(t, "Checkpoint", w.Checkpoint(records(200, 20)), api.OK)
	counts(t, "of the whole ring", w, 1, 5, 0)
	want = imageOf(8, head{4, 1, 5, 4}, records(200, 20)...)
	want[1] = head{3, 1, 5, 4}.sector()
	looks(t, "of the whole ring", p, want)

	is(t, "Checkpoint", w.Checkpoint(nil), api.OK)
	counts(t, "of none, of a full ring", w, 1, 5, 6)
	want = bare(8)
	want[0], want[1] = head{4, 1, 5, 4}.sector(), head{5, 1, 5, 6}.sector()
	looks(t, "of none, of a full ring", p, want)
}

// P7.3: a checkpoint that is refused; ErrArg comes ahead of ErrFull.
func TestCheckpointRefuses(t *testing.T) {
	a := newPair(t, bare(10))
	a.append(record(90, 1))
	for _, c := range []struct {
		recs [][]byte
		want api.Errno
	}{
		{records(200), api.OK},
		{records(201), api.ErrFull},
		{records(40, 40, 40, 40, 40), api.OK},
		{records(1, 1, 1, 1, 1, 1), api.ErrFull},
		{records(160, 41), api.ErrFull},
		{records(1, 0), api.ErrArg},
		{records(2001), api.ErrArg},
		{records(2000, 2000, 2001), api.ErrArg},
		{[][]byte{nil}, api.ErrArg},
		{append(records(1999), nil), api.ErrArg},
	} {
		p := a.mine.Copy()
		w, _ := opened(t, p)
		before := sectors(p)
		is(t, "Checkpoint", w.Checkpoint(c.recs), c.want)
		if c.want != api.OK {
			counts(t, "refused", w, 2, a.wal.Last(), 5)
			if !same(sectors(p), before) {
				t.Error("a refused checkpoint writes")
			}
		}
		a.checkpoint(c.recs...)
		a.checkpoint(record(90, 1))
	}
}

// P7.2, P7.3: numbers of records up to MaxNumber.
func TestLastRecords(t *testing.T) {
	a := newPair(t, imageOf(6, head{2, 1, 1, most - 5}, records(1, 2)...))
	a.append(record(3, 1))
	a.append(record(4, 1))
	counts(t, "four", a.wal, 2, most-2, 0)
	a.checkpoint()
	counts(t, "none", a.wal, 2, most-2, 4)
	a.checkpoint(records(1)...)
	counts(t, "one", a.wal, 2, most-1, 3)
	is(t, "the last but one", a.wal.Checkpoint(records(1)), api.ErrFull)
	a.checkpoint(records(1)...)
	a.checkpoint()
	counts(t, "none", a.wal, 2, most-1, 4)
	a.append(record(50, 1))
	counts(t, "the last number", a.wal, 2, most, 2)
	is(t, "beyond", second(a.wal.Append([]byte{1})), api.ErrFull)
	a.append([]byte{1})
	is(t, "none, at the last number", a.wal.Checkpoint(nil), api.ErrFull)
	a.checkpoint()
	is(t, "beyond, and wrong", second(a.wal.Append(nil)), api.ErrArg)
	is(t, "beyond, and wrong", a.wal.Checkpoint([][]byte{{}}), api.ErrArg)
	a.sync()
	refuses(t, "first number and S", a.mine, api.ErrFull)
}

// P7.3: heads' numbers up to MaxNumber; a life stays.
func TestLastHeads(t *testing.T) {
	a := newPair(t, imageOf(6, head{most - 2, most - 1, 0, 1}))
	counts(t, "the last but one", a.wal, most, 0, 4)
	a.append([]byte{1})
	a.checkpoint(records(2, 3)...)
	counts(t, "the last", a.wal, most, 3, 2)
	is(t, "beyond", a.wal.Checkpoint(nil), api.ErrFull)
	is(t, "beyond, and wrong", a.wal.Checkpoint([][]byte{{}}), api.ErrArg)
	a.checkpoint()
	a.append([]byte{4})
	a.sync()
	refuses(t, "the last head", a.mine, api.ErrFull)
}

// P7.6: each Open has a greater life.
func TestLives(t *testing.T) {
	p := newPlate(t, 6)
	for life := 1; life < 40; life++ {
		w, recs := opened(t, p)
		if w.Life() != life || len(recs) != (life-1)%3 {
			t.Fatalf("life %d, %d records, want %d, %d", w.Life(), len(recs), life, (life-1)%3)
		}
		switch life % 3 {
		case 0:
			is(t, "Checkpoint", w.Checkpoint(nil), api.OK)
			counts(t, "a checkpoint", w, life, life/3*2, 4)
		default:
			w.Append(record(10, 1))
			w.Sync()
		}
		p.Crash(nil, -1, 0)
	}
}

// Two wals of one plate go on by what each of them knows.
func TestOpenTwice(t *testing.T) {
	p := newPlate(t, 8)
	one, _ := opened(t, p)
	one.Append(record(41, 1))
	two := tells(t, "what is dirty yet", p, [][]byte{record(41, 1)})
	counts(t, "the second one", two, 2, 1, 4)
	counts(t, "the first one", one, 1, 1, 4)
	if len(p.Dirty()) > 0 {
		t.Errorf("dirty behind Open: %v", p.Dirty())
	}
}

// Objects that no call made.
func TestNoWal(t *testing.T) {
	for _, w := range []*wal.Wal{nil, {}} {
		for _, rec := range [][]byte{nil, {1}, record(2001, 1)} {
			if n, e := w.Append(rec); n != 0 || e != api.ErrNil {
				t.Errorf("Append: %d, error %d", n, e)
			}
			is(t, "Checkpoint", w.Checkpoint([][]byte{rec}), api.ErrNil)
		}
		is(t, "Sync", w.Sync(), api.ErrNil)
		is(t, "Checkpoint", w.Checkpoint(nil), api.ErrNil)
		counts(t, "no wal", w, 0, 0, 0)
	}
}

// A plate that has failed: its error at once.
func TestFailedPlate(t *testing.T) {
	p := newPlate(t, 8)
	w, _ := opened(t, p)
	w.Append(record(41, 1))
	p.Fail()
	for range 2 {
		if n, e := w.Append([]byte{1}); n != 0 || e != api.ErrDead {
			t.Errorf("Append: %d, error %d", n, e)
		}
		is(t, "Sync", w.Sync(), api.ErrDead)
		is(t, "Checkpoint", w.Checkpoint(records(3)), api.ErrDead)
		is(t, "Checkpoint of none", w.Checkpoint(nil), api.ErrDead)
	}
	refuses(t, "Open", p, api.ErrDead)
}
