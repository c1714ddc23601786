package plate_test

import (
	"bytes"
	"slices"
	"testing"

	"amphora/api"
	"amphora/plate"
)

// room is a list with more behind its end that nobody may change.
func room[T any](l []T, more ...T) []T { return append(slices.Clone(l), more...)[:len(l)] }

// roomy is an image of which all lists have room behind their ends.
func roomy(image [][]byte) [][]byte {
	var l [][]byte
	for _, b := range image {
		l = append(l, room(b, 0xa1, 0xa2, 0xa3))
	}
	return room(l, []byte{0xb1})
}

// whole is a copy of all that an image's lists reach, their room included.
func whole(image [][]byte) [][]byte {
	var w [][]byte
	for _, b := range image[:cap(image)] {
		w = append(w, slices.Clone(b[:cap(b)]))
	}
	return w
}

// spoil writes over all that an image's lists reach.
func spoil(image [][]byte) {
	for _, b := range image[:cap(image)] {
		b = b[:cap(b)]
		for k := range b {
			b[k] ^= 0xff
		}
	}
	clear(image[:cap(image)])
}

func TestImagesAreNotChangedNorKept(t *testing.T) {
	image := roomy(printed(5))
	before := whole(image)
	p := of(t, image)
	write(t, p, 1, scattered(1))
	ok(t, "Crash", p.Crash(nil, 1, 9))
	write(t, p, 2, scattered(2))
	ok(t, "Sync", p.Sync())
	if !same(whole(image), before) {
		t.Error("the plate writes to its image")
	}
	p = of(t, image)
	spoil(image)
	looks(t, "its image spoilt", p, printed(5), printed(5), nil)
	short := roomy(printed(2))
	short[1] = short[1][:63]
	before = whole(short)
	if _, e := plate.Of(short); e != api.ErrArg || !same(whole(short), before) {
		t.Errorf("a refused image: error %d, or changed", e)
	}
}

func TestSectorsAreNotChangedNorKept(t *testing.T) {
	p, b := blank(t, 2), room(scattered(1), 0xa1, 0xa2)
	before := slices.Clone(b[:cap(b)])
	write(t, p, 0, b)
	write(t, p, 1, b)
	is(t, "refused", p.Write(2, b), api.ErrArg)
	write(t, p, 0, scattered(2))
	ok(t, "Sync", p.Sync())
	write(t, p, 1, b)
	if !bytes.Equal(b[:cap(b)], before) {
		t.Error("Write changes its argument")
	}
	spoil([][]byte{b})
	looks(t, "what was written spoilt", p, [][]byte{scattered(2), scattered(1)}, [][]byte{scattered(2), scattered(1)}, []int{1})
	ok(t, "Sync", p.Sync())
	looks(t, "synced", p, [][]byte{scattered(2), scattered(1)}, [][]byte{scattered(2), scattered(1)}, nil)
}

func TestKeepIsNotChanged(t *testing.T) {
	keep := room([]int{6, 6, -1, 3, 1}, 4, 99)
	p := written(t)
	ok(t, "Crash", p.Crash(keep, 4, 9))
	if !slices.Equal(keep[:7], []int{6, 6, -1, 3, 1, 4, 99}) {
		t.Errorf("Crash changes its numbers: %v", keep[:7])
	}
}

// What lies behind the ends of lists does not count.
func TestRoomDoesNotCount(t *testing.T) {
	p := written(t)
	ok(t, "Crash", p.Crash([]int{1, 3, 4}[:1], -1, 0))
	want := settled(printed(8), map[int][]byte{1: scattered(1)})
	looks(t, "keep with room", p, want, want, nil)
	is(t, "a sector in room", p.Write(0, scattered(1)[:63]), api.ErrArg)
	if _, e := plate.Of(printed(3)[:0]); e != api.ErrArg {
		t.Errorf("an image in room: error %d", e)
	}
	looks(t, "an image with room", of(t, roomy(printed(3))), printed(3), printed(3), nil)
}

func TestAnswersAreNewMemory(t *testing.T) {
	p := written(t)
	now := settled(printed(8), map[int][]byte{1: scattered(1), 3: scattered(3), 4: scattered(4), 6: scattered(6)})
	for i := range 8 {
		one, _ := p.Read(i)
		other, _ := p.Read(i)
		spoil([][]byte{one})
		if !bytes.Equal(other, now[i]) {
			t.Errorf("Read(%d) answers memory of another answer", i)
		}
	}
	one, other := p.Image(), p.Image()
	spoil(one)
	if !same(other, printed(8)) {
		t.Error("Image answers memory of another answer")
	}
	dirty, others := p.Dirty(), p.Dirty()
	clear(dirty[:cap(dirty)])
	if !slices.Equal(others, []int{1, 3, 4, 6}) {
		t.Error("Dirty answers memory of another answer")
	}
	looks(t, "answers spoilt", p, now, printed(8), []int{1, 3, 4, 6})
	ok(t, "Sync", p.Sync())
	for i := range 8 {
		b, _ := p.Read(i)
		spoil([][]byte{b})
	}
	looks(t, "answers spoilt, synced", p, now, now, nil)
}

func TestSectorsOfAnImageAreApart(t *testing.T) {
	image := written(t).Image()
	for i := range image {
		kept := whole(image)
		spoil([][]byte{image[i]})
		for j := range image {
			if j != i && !bytes.Equal(image[j][:cap(image[j])], kept[j]) {
				t.Errorf("sectors %d and %d share memory", i, j)
			}
		}
	}
}

// An answer stays as it was told, whatever becomes of the plate.
func TestAnswersAreNotChanged(t *testing.T) {
	p := written(t)
	image, dirty := p.Image(), p.Dirty()
	clean, _ := p.Read(0)
	turned, _ := p.Read(3)
	write(t, p, 0, scattered(50))
	write(t, p, 3, scattered(51))
	ok(t, "Sync", p.Sync())
	ok(t, "Fail", p.Fail())
	if !same(image, printed(8)) || !slices.Equal(dirty, []int{1, 3, 4, 6}) || !bytes.Equal(clean, printed(8)[0]) || !bytes.Equal(turned, scattered(3)) {
		t.Error("an answer changes with the plate")
	}
}
