package audit_test

import (
	"bytes"
	"reflect"
	"slices"
	"testing"

	"amphora/api"
	"amphora/audit"
)

// room is a list with more behind its end that nobody may change.
func room[T any](l []T, more ...T) []T { return append(slices.Clone(l), more...)[:len(l)] }

// roomy is an image of which all lists have room behind their ends.
func roomy(image [][]byte) [][]byte {
	var l [][]byte
	for _, b := range image {
		l = append(l, room(b, 0xa1, 0xa2, 0xa3))
	}
	return room(l, []byte{0xb1})
}

// whole is a copy of all that an image's lists reach, their room included.
func whole(image [][]byte) [][]byte {
	var w [][]byte
	for _, b := range image[:cap(image)] {
		w = append(w, slices.Clone(b[:cap(b)]))
	}
	return w
}

// spoil writes over all that shards reach.
func spoil(held []api.Held) {
	for _, h := range held {
		for i := range h.Bytes[:cap(h.Bytes)] {
			h.Bytes[:cap(h.Bytes)][i] ^= 0xff
		}
	}
	clear(held[:cap(held)])
}

func TestImagesAreNotChanged(t *testing.T) {
	images, b, blob := placed(t, 30)
	images = append(images, sectors(3, api.Size), sectors(8, 63), nil)
	var before [][][]byte
	for i := range images {
		images[i] = roomy(images[i])
		before = append(before, whole(images[i]))
	}
	images = room(images, [][]byte{{0xc1}})
	blob, b.Nodes = room(blob, 0xd1, 0xd2), room(b.Nodes, 77, 78)
	sound(t, "with room", images, b, blob, true)
	for i := range images {
		audit.Shards(images[i])
	}
	blob[3]++
	sound(t, "another byte", images, b, blob, false)
	blob[3]--
	for i := range images {
		if !reflect.DeepEqual(whole(images[i]), before[i]) {
			t.Errorf("image %d has changed", i)
		}
	}
	if !bytes.Equal(images[:10][9][0], []byte{0xc1}) {
		t.Error("the list of images has changed")
	}
	if !bytes.Equal(blob[:32], append(some(30), 0xd1, 0xd2)) || !slices.Equal(b.Nodes[:7], []int{4, 2, 0, 5, 1, 77, 78}) {
		t.Errorf("what was handed in has changed: %x, %v", blob[:32], b.Nodes[:7])
	}
}

// What lies behind the ends of lists does not count.
func TestRoomDoesNotCount(t *testing.T) {
	images, b, blob := placed(t, 30)
	sound(t, "images in room", images[:0], b, blob, false)
	sound(t, "bytes in room", images, b, blob[:29], false)
	b.Nodes = b.Nodes[:4]
	sound(t, "nodes in room", images, b, blob, false)
	refuses(t, "sectors in room", images[0][:0], api.ErrArg)
}

func TestAnswersAreNewMemory(t *testing.T) {
	want := []api.Held{{Blob: 1, Index: 0, Bytes: some(70)}, {Blob: 1, Index: 1, Bytes: some(9)}, {Blob: 2, Index: 0, Bytes: some(200)}}
	l := image(t, want...)
	one, e := audit.Shards(l)
	is(t, "shards", e, api.OK)
	other, _ := audit.Shards(l)
	for i := range one {
		spoil(slices.Clone(one[i : i+1]))
		if !reflect.DeepEqual(one[i+1:], want[i+1:]) {
			t.Fatalf("shard %d shares memory with others", i)
		}
	}
	spoil(one)
	tells(t, "an answer spoilt", l, want...)
	if !reflect.DeepEqual(other, want) {
		t.Fatal("two answers share memory")
	}
	for _, sector := range l {
		clear(sector)
	}
	if !reflect.DeepEqual(other, want) {
		t.Fatal("an answer shares memory with its image")
	}
}
