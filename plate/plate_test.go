package plate_test

import (
	"bytes"
	"math"
	"slices"
	"testing"

	"amphora/api"
	"amphora/plate"
)

const size = 64 // bytes of a sector

func same(a, b [][]byte) bool { return slices.EqualFunc(a, b, bytes.Equal) }

// scattered is a sector of bytes that hang on the seed alone; none is 0, so
// that noughts are told from it.
func scattered(seed uint32) []byte {
	b := make([]byte, size)
	for i := range b {
		seed = seed*1664525 + 1013904223
		b[i] = byte(seed>>24)%255 + 1
	}
	return b
}

// noughts is an image of them.
func noughts(sectors int) [][]byte {
	image := make([][]byte, sectors)
	for i := range image {
		image[i] = make([]byte, size)
	}
	return image
}

// printed is an image of sectors that all differ.
func printed(sectors int) [][]byte {
	image := noughts(sectors)
	for i := range image {
		image[i] = scattered(uint32(1000 + i))
	}
	return image
}

// blank is a plate of noughts, where there may be no error.
func blank(t *testing.T, sectors int) *plate.Plate {
	t.Helper()
	p, e := plate.New(sectors)
	if e != api.OK || p == nil {
		t.Fatalf("New(%d): error %d", sectors, e)
	}
	return p
}

// of is a plate of an image, where there may be no error.
func of(t *testing.T, image [][]byte) *plate.Plate {
	t.Helper()
	p, e := plate.Of(image)
	if e != api.OK || p == nil {
		t.Fatalf("Of %d sectors: error %d", len(image), e)
	}
	return p
}

// ok has a call answer no error.
func ok(t *testing.T, name string, e api.Errno) {
	t.Helper()
	if e != api.OK {
		t.Fatalf("%s: error %d", name, e)
	}
}

// is has a call answer the error.
func is(t *testing.T, name string, e, want api.Errno) {
	t.Helper()
	if e != want {
		t.Errorf("%s: error %d, want %d", name, e, want)
	}
}

// write writes, where there may be no error.
func write(t *testing.T, p *plate.Plate, i int, b []byte) {
	t.Helper()
	ok(t, "Write", p.Write(i, b))
}

// reads has all sectors of a plate be told.
func reads(t *testing.T, name string, p *plate.Plate, want [][]byte) {
	t.Helper()
	for i := range want {
		if b, e := p.Read(i); e != api.OK || !bytes.Equal(b, want[i]) {
			t.Fatalf("%s: sector %d is %x, error %d, want %x", name, i, b, e, want[i])
		}
	}
}

// looks has a plate that has not failed be told as a whole.
func looks(t *testing.T, name string, p *plate.Plate, now, durable [][]byte, dirty []int) {
	t.Helper()
	if n := p.Sectors(); n != len(now) || p.Failed() {
		t.Fatalf("%s: %d sectors, failed %v, want %d", name, n, p.Failed(), len(now))
	}
	if got := p.Dirty(); !slices.Equal(got, dirty) {
		t.Fatalf("%s: %v are dirty, want %v", name, got, dirty)
	}
	if !same(p.Image(), durable) {
		t.Fatalf("%s: another image", name)
	}
	reads(t, name, p, now)
}

// settled is an image with other sectors.
func settled(image [][]byte, other map[int][]byte) [][]byte {
	image = slices.Clone(image)
	for i, b := range other {
		image[i] = b
	}
	return image
}

// torn is the beginning of one sector, and the rest of another one.
func torn(first, rest []byte, n int) []byte { return append(slices.Clone(first[:n]), rest[n:]...) }

// noPlaces is what is no sector of a plate of so many.
func noPlaces(sectors int) []int {
	return []int{-1, -2, -64, sectors, sectors + 1, sectors * 64, api.MaxSectors + 1, 1 << 58, 1<<58 + 1, math.MaxInt, math.MinInt, math.MinInt + 1}
}

// P6.1
func TestNew(t *testing.T) {
	for _, n := range []int{1, 2, 6, 64, 8191, 8192} {
		looks(t, "New", blank(t, n), noughts(n), noughts(n), nil)
	}
	for _, n := range []int{0, -1, -64, 8193, 8194, 1 << 20, 1 << 58, 1<<58 + 1, math.MaxInt, math.MinInt, math.MinInt + 1} {
		if p, e := plate.New(n); e != api.ErrArg || p != nil {
			t.Errorf("New(%d): error %d, a plate %v", n, e, p != nil)
		}
	}
}

// P6.1
func TestOf(t *testing.T) {
	for _, n := range []int{1, 2, 6, 64, 8191, 8192} {
		looks(t, "Of", of(t, printed(n)), printed(n), printed(n), nil)
	}
	one := scattered(1)
	looks(t, "Of one sector twice", of(t, [][]byte{one, one}), [][]byte{one, one}, [][]byte{one, one}, nil)
}

// P6.1
func TestOfRefuses(t *testing.T) {
	no := map[string][][]byte{"nil": nil, "empty": {}, "one too many": noughts(8193), "far too many": make([][]byte, 1<<20), "one without bytes": {nil}}
	for _, length := range []int{0, 1, 63, 65, 128, 64 * 64} {
		first, last, lone := printed(5), printed(5), printed(1)
		first[0], last[4], lone[0] = make([]byte, length), make([]byte, length), make([]byte, length)
		for name, image := range map[string][][]byte{"the first": first, "the last": last, "the only one": lone} {
			no[name+" of another length"] = image
		}
		for name, image := range no {
			if p, e := plate.Of(image); e != api.ErrArg || p != nil {
				t.Errorf("%s (%d): error %d, a plate %v", name, length, e, p != nil)
			}
		}
	}
	swapped := printed(2)
	swapped[0], swapped[1] = append(swapped[0], 1), swapped[1][:63] // as long in all as two sectors are
	if p, e := plate.Of(swapped); e != api.ErrArg || p != nil {
		t.Errorf("one longer, one shorter: error %d, a plate %v", e, p != nil)
	}
}

// P6.2
func TestWriteAndRead(t *testing.T) {
	p := of(t, printed(4))
	write(t, p, 2, scattered(1))
	looks(t, "one", p, settled(printed(4), map[int][]byte{2: scattered(1)}), printed(4), []int{2})
	write(t, p, 0, scattered(2))
	write(t, p, 3, make([]byte, size))
	write(t, p, 2, scattered(3))
	now := settled(printed(4), map[int][]byte{0: scattered(2), 2: scattered(3), 3: make([]byte, size)})
	looks(t, "three", p, now, printed(4), []int{0, 2, 3})
	write(t, p, 2, printed(4)[2])
	now[2] = printed(4)[2]
	looks(t, "one as it was", p, now, printed(4), []int{0, 2, 3})
	ok(t, "Sync", p.Sync())
	looks(t, "synced", p, now, now, nil)
	ok(t, "Sync of none", p.Sync())
	looks(t, "synced again", p, now, now, nil)
	write(t, p, 1, now[1])
	looks(t, "the same bytes", p, now, now, []int{1})
}

// P6.2: dirty sectors are told rising, in whatever order they were written.
func TestDirtyRises(t *testing.T) {
	p := blank(t, api.MaxSectors)
	var want []int
	for k := range 500 {
		i := k * 5003 % api.MaxSectors
		write(t, p, i, scattered(uint32(k)))
		want = append(want, i)
	}
	slices.Sort(want)
	if got := p.Dirty(); !slices.Equal(got, want) {
		t.Errorf("%v, want %v", got, want)
	}
}

// P6.2: all of the largest plate.
func TestAllSectors(t *testing.T) {
	p, image := blank(t, api.MaxSectors), printed(api.MaxSectors)
	for i := api.MaxSectors - 1; i >= 0; i-- {
		write(t, p, i, image[i])
	}
	all := make([]int, api.MaxSectors)
	for i := range all {
		all[i] = i
	}
	looks(t, "written", p, image, noughts(api.MaxSectors), all)
	ok(t, "Sync", p.Sync())
	looks(t, "synced", p, image, image, nil)
}

// P6.2
func TestReadAndWriteRefuse(t *testing.T) {
	for _, n := range []int{1, 4, api.MaxSectors} {
		p := of(t, printed(n))
		write(t, p, n-1, scattered(1))
		now := settled(printed(n), map[int][]byte{n - 1: scattered(1)})
		for _, i := range noPlaces(n) {
			if b, e := p.Read(i); e != api.ErrArg || len(b) != 0 {
				t.Errorf("Read(%d) of %d: %d bytes, error %d", i, n, len(b), e)
			}
			is(t, "Write beside", p.Write(i, scattered(2)), api.ErrArg)
			is(t, "Write beside, of none", p.Write(i, nil), api.ErrArg)
		}
		for _, length := range []int{0, 1, 63, 65, 128, 1 << 20} {
			is(t, "Write of another length", p.Write(0, make([]byte, length)), api.ErrArg)
			is(t, "Write of another length", p.Write(n-1, make([]byte, length)), api.ErrArg)
		}
		is(t, "Write of nil", p.Write(0, nil), api.ErrArg)
		looks(t, "refused", p, now, printed(n), []int{n - 1})
	}
}

// P6.3, the chapter's example
func TestCrashExample(t *testing.T) {
	p, b := blank(t, 4), scattered(1)
	write(t, p, 1, b)
	ok(t, "Crash", p.Crash(nil, 1, 2))
	want := settled(noughts(4), map[int][]byte{1: torn(b, make([]byte, size), 2)})
	looks(t, "two bytes", p, want, want, nil)
}

// written is a plate of eight printed sectors, of which 1, 3, 4 and 6 are
// dirty, with scattered bytes of their numbers.
func written(t *testing.T) *plate.Plate {
	t.Helper()
	p := of(t, printed(8))
	for _, i := range []int{6, 1, 4, 3} {
		write(t, p, i, scattered(99))
		write(t, p, i, scattered(uint32(i)))
	}
	return p
}

// P6.3
func TestCrashKeeps(t *testing.T) {
	for name, x := range map[string]struct {
		keep, kept []int
	}{
		"nil":                 {nil, nil},
		"none":                {[]int{}, nil},
		"one":                 {[]int{4}, []int{4}},
		"the first":           {[]int{1}, []int{1}},
		"the last":            {[]int{6}, []int{6}},
		"two, falling":        {[]int{6, 3}, []int{3, 6}},
		"all":                 {[]int{1, 3, 4, 6}, []int{1, 3, 4, 6}},
		"one twice":           {[]int{4, 4}, []int{4}},
		"one three times":     {[]int{4, 1, 4, 4}, []int{1, 4}},
		"one that is clean":   {[]int{2}, nil},
		"clean ones between":  {[]int{0, 3, 5, 7}, []int{3}},
		"those not there":     {append(noPlaces(8), 3), []int{3}},
		"those not there, on": {append([]int{3}, noPlaces(8)...), []int{3}},
		"each sector":         {[]int{7, 6, 5, 4, 3, 2, 1, 0}, []int{1, 3, 4, 6}},
		"very many":           {slices.Repeat([]int{1, 9, -1}, 1<<16), []int{1}},
	} {
		want := printed(8)
		for _, i := range x.kept {
			want[i] = scattered(uint32(i))
		}
		for _, i := range append(noPlaces(8), 0, 2, 7) { // torn is none that is dirty
			p := written(t)
			ok(t, name, p.Crash(x.keep, i, 5))
			looks(t, name, p, want, want, nil)
		}
	}
}

// P6.3
func TestCrashTears(t *testing.T) {
	for _, i := range []int{1, 3, 4, 6} {
		for n, whole := range map[int]int{
			math.MinInt: 0, -65: 0, -1: 0, 0: 0, 1: 1, 2: 2, 31: 31, 32: 32, 63: 63, 64: 64, 65: 64, 128: 64, math.MaxInt: 64,
		} {
			p := written(t)
			ok(t, "torn", p.Crash(nil, i, n))
			want := settled(printed(8), map[int][]byte{i: torn(scattered(uint32(i)), printed(8)[i], whole)})
			looks(t, "torn", p, want, want, nil)

			p = written(t)
			ok(t, "torn of keep", p.Crash([]int{i, 4}, i, n))
			want = settled(printed(8), map[int][]byte{i: scattered(uint32(i)), 4: scattered(4)})
			looks(t, "torn of keep", p, want, want, nil)
		}
	}
	for n := range size + 1 {
		p := written(t)
		ok(t, "torn beside keep", p.Crash([]int{6, 6, 1}, 3, n))
		want := settled(printed(8), map[int][]byte{1: scattered(1), 6: scattered(6), 3: torn(scattered(3), printed(8)[3], n)})
		looks(t, "torn beside keep", p, want, want, nil)
	}
}

// P6.3: what a crash left is what a later one leaves or tears.
func TestCrashesInARow(t *testing.T) {
	p := blank(t, 2)
	write(t, p, 0, scattered(1))
	ok(t, "first", p.Crash(nil, 0, 40))
	write(t, p, 0, scattered(2))
	ok(t, "second", p.Crash(nil, 0, 10))
	want := [][]byte{torn(scattered(2), torn(scattered(1), make([]byte, size), 40), 10), make([]byte, size)}
	looks(t, "torn twice", p, want, want, nil)
	ok(t, "of none", p.Crash([]int{0, 1}, 0, 64))
	looks(t, "of none", p, want, want, nil)
	write(t, p, 1, scattered(3))
	ok(t, "Sync", p.Sync())
	want[1] = scattered(3)
	ok(t, "behind Sync", p.Crash(nil, -1, 0))
	looks(t, "behind Sync", p, want, want, nil)
}

// dead has a plate have failed.
func dead(t *testing.T, p *plate.Plate, sectors int) {
	t.Helper()
	if !p.Failed() || p.Sectors() != sectors || len(p.Image()) != 0 || len(p.Dirty()) != 0 {
		t.Errorf("failed %v, %d sectors, %d of its image, %d dirty", p.Failed(), p.Sectors(), len(p.Image()), len(p.Dirty()))
	}
	for _, i := range append(noPlaces(sectors), 0, sectors-1) {
		if b, e := p.Read(i); e != api.ErrDead || len(b) != 0 {
			t.Errorf("Read(%d): %d bytes, error %d", i, len(b), e)
		}
		is(t, "Write", p.Write(i, scattered(1)), api.ErrDead)
		is(t, "Write of none", p.Write(i, nil), api.ErrDead)
		is(t, "Crash", p.Crash([]int{i}, i, i), api.ErrDead)
	}
	is(t, "Sync", p.Sync(), api.ErrDead)
	is(t, "Crash of none", p.Crash(nil, -1, 0), api.ErrDead)
	is(t, "Fail", p.Fail(), api.ErrDead)
}

// P6.4
func TestFail(t *testing.T) {
	for _, n := range []int{1, 8, api.MaxSectors} {
		p := of(t, printed(n))
		write(t, p, 0, scattered(1))
		ok(t, "Fail", p.Fail())
		dead(t, p, n)
		dead(t, p, n) // for ever: none of the calls has mended it
		dead(t, p.Copy(), n)
	}
	p := blank(t, 3)
	ok(t, "Fail of one with nothing dirty", p.Fail())
	dead(t, p, 3)
}

// P6.4: an image is all sectors, as they are durable; a plate of it is clean.
func TestImage(t *testing.T) {
	p := written(t)
	looks(t, "of its image", of(t, p.Image()), printed(8), printed(8), nil)
	ok(t, "Sync", p.Sync())
	want := settled(printed(8), map[int][]byte{1: scattered(1), 3: scattered(3), 4: scattered(4), 6: scattered(6)})
	looks(t, "of its image, synced", of(t, p.Image()), want, want, nil)
}

// P6.4: copies go their own ways.
func TestCopy(t *testing.T) {
	now := settled(printed(8), map[int][]byte{1: scattered(1), 3: scattered(3), 4: scattered(4), 6: scattered(6)})
	dirty := []int{1, 3, 4, 6}
	for name, turn := range map[string]func(p *plate.Plate) api.Errno{
		"Write":            func(p *plate.Plate) api.Errno { return p.Write(0, scattered(50)) },
		"Write of a dirty": func(p *plate.Plate) api.Errno { return p.Write(3, scattered(50)) },
		"Sync":             func(p *plate.Plate) api.Errno { return p.Sync() },
		"Crash":            func(p *plate.Plate) api.Errno { return p.Crash([]int{1}, 3, 9) },
		"Fail":             func(p *plate.Plate) api.Errno { return p.Fail() },
	} {
		p := written(t)
		c := p.Copy()
		looks(t, name+": the copy", c, now, printed(8), dirty)
		ok(t, name, turn(c))
		looks(t, name+" of the copy", p, now, printed(8), dirty)
		c = p.Copy()
		ok(t, name, turn(p))
		looks(t, name+" of the first one", c, now, printed(8), dirty)
		ok(t, "Sync", c.Sync())
		looks(t, name+": the copy, synced", c, now, now, nil)
	}
	clean := blank(t, 2).Copy()
	write(t, clean, 1, scattered(1))
	looks(t, "a clean one's copy", clean, [][]byte{make([]byte, size), scattered(1)}, noughts(2), []int{1})
}

// P6.5
func TestCrashWithAllIsSync(t *testing.T) {
	p := written(t)
	c := p.Copy()
	ok(t, "Sync", p.Sync())
	ok(t, "Crash", c.Crash(c.Dirty(), -1, 0))
	looks(t, "all kept", c, p.Image(), p.Image(), nil)
	p = blank(t, 3)
	ok(t, "Crash of a clean one", p.Crash(p.Dirty(), 1, 9))
	looks(t, "a clean one", p, noughts(3), noughts(3), nil)
}

// P6.5
func TestCrashWithNoneLeavesTheImage(t *testing.T) {
	for _, n := range []int{math.MinInt, -1, 0, 1, 64, math.MaxInt} {
		p := written(t)
		ok(t, "Crash", p.Crash(nil, -1, n))
		looks(t, "none kept", p, printed(8), printed(8), nil)
	}
}

// P6.6: all calls but Sync and Crash leave what is durable.
func TestDurableIsTurnedBySyncAndCrashAlone(t *testing.T) {
	p := written(t)
	for i := range 8 {
		write(t, p, i, scattered(uint32(60+i)))
		p.Read(i)
		p.Write(i, nil)
		p.Write(8+i, scattered(1))
		p.Dirty()
		p.Sectors()
		p.Failed()
		c := p.Copy()
		c.Sync()
		c.Fail()
		if !same(p.Image(), printed(8)) {
			t.Fatalf("another image at sector %d", i)
		}
	}
}

// Plates that no call made.
func TestNoPlate(t *testing.T) {
	for name, p := range map[string]*plate.Plate{"nil": nil, "plain": {}, "new": new(plate.Plate)} {
		for _, i := range append(noPlaces(1), 0) {
			if b, e := p.Read(i); e != api.ErrNil || len(b) != 0 {
				t.Errorf("%s: Read(%d): %d bytes, error %d", name, i, len(b), e)
			}
			is(t, name+": Write", p.Write(i, scattered(1)), api.ErrNil)
			is(t, name+": Write of none", p.Write(i, nil), api.ErrNil)
			is(t, name+": Crash", p.Crash([]int{i}, i, i), api.ErrNil)
		}
		is(t, name+": Crash of none", p.Crash(nil, -1, 0), api.ErrNil)
		is(t, name+": Sync", p.Sync(), api.ErrNil)
		is(t, name+": Fail", p.Fail(), api.ErrNil)
		if p.Sectors() != 0 || p.Failed() || len(p.Dirty()) != 0 || len(p.Image()) != 0 || p.Copy() != nil {
			t.Errorf("%s: %d sectors, failed %v, %v, %d of its image", name, p.Sectors(), p.Failed(), p.Dirty(), len(p.Image()))
		}
	}
}
