package audit_test

import (
	"bytes"
	"reflect"
	"testing"

	"amphora/api"
	"amphora/audit"
	"amphora/plate"
	"amphora/shelf"
	"amphora/stripe"
	"amphora/wal"
)

// shard is bytes that hang on a number.
func shard(n int) []byte { return []byte{byte(n), byte(n >> 8), 7} }

// some is so many bytes, no two neighbours alike.
func some(n int) []byte {
	b := make([]byte, n)
	for i := range b {
		b[i] = byte(i*37 + 11)
	}
	return b
}

// disk is a plate, and its shelf.
func disk(t *testing.T, sectors int) (*plate.Plate, *shelf.Shelf) {
	t.Helper()
	p, _ := plate.New(sectors)
	s, e := shelf.Open(p)
	is(t, "open", e, api.OK)
	return p, s
}

func is(t *testing.T, what string, got, want api.Errno) {
	t.Helper()
	if got != want {
		t.Fatalf("%s: %v, not %v", what, got, want)
	}
}

// synced is the image of a plate behind a shelf's sync.
func synced(t *testing.T, p *plate.Plate, s *shelf.Shelf) [][]byte {
	t.Helper()
	is(t, "sync", s.Sync(), api.OK)
	return p.Image()
}

// image is one that has some shards.
func image(t *testing.T, held ...api.Held) [][]byte {
	t.Helper()
	p, s := disk(t, 200)
	for _, h := range held {
		is(t, "store", s.Store(h.Blob, h.Index, 0, h.Bytes), api.OK)
	}
	return synced(t, p, s)
}

// tells holds what an image has against what it shall have.
func tells(t *testing.T, what string, image [][]byte, want ...api.Held) {
	t.Helper()
	got, e := audit.Shards(image)
	if e != api.OK || len(got) != len(want) || len(want) > 0 && !reflect.DeepEqual(got, want) {
		t.Fatalf("%s: %v, %v, not %v", what, got, e, want)
	}
}

// refuses has an image be refused.
func refuses(t *testing.T, what string, image [][]byte, want api.Errno) {
	t.Helper()
	if got, e := audit.Shards(image); e != want || len(got) != 0 {
		t.Fatalf("%s: %v, %v, not %v", what, got, e, want)
	}
}

// sectors is so many of so many noughts.
func sectors(n, size int) [][]byte {
	l := make([][]byte, n)
	for i := range l {
		l[i] = make([]byte, size)
	}
	return l
}

// P23.1: plate.Of's error.
func TestImagesThatAreNone(t *testing.T) {
	refuses(t, "nil", nil, api.ErrArg)
	refuses(t, "no sectors", [][]byte{}, api.ErrArg)
	refuses(t, "too many sectors", sectors(api.MaxSectors+1, api.Size), api.ErrArg)
	for _, size := range []int{0, 1, api.Size - 1, api.Size + 1} {
		refuses(t, "sectors of another size", sectors(8, size), api.ErrArg)
		for _, i := range []int{0, 3, 7} {
			l := image(t, api.Held{Blob: 1, Index: 0, Bytes: shard(1)})
			l[i] = make([]byte, size)
			refuses(t, "a sector of another size", l, api.ErrArg)
		}
	}
}

// P23.1: shelf.Open's error.
func TestImagesWithoutAShelf(t *testing.T) {
	for n := range 12 {
		if n == 0 {
			continue
		}
		p, _ := plate.New(n)
		_, want := shelf.Open(p)
		if (n < 6) != (want != api.OK) {
			t.Fatalf("%d sectors: %v", n, want)
		}
		refuses(t, "few sectors", sectors(n, api.Size), want)
	}
	for _, rec := range [][]byte{{0}, {5}, {1}, {1, 0, 0}, {2, 1, 0, 0}, {3, 0, 0}, []byte("none")} {
		p, _ := plate.New(20)
		w, _, e := wal.Open(p)
		is(t, "wal", e, api.OK)
		_, e = w.Append(rec)
		is(t, "append", e, api.OK)
		is(t, "sync", w.Sync(), api.OK)
		refuses(t, "another record", p.Image(), api.ErrLog)
	}
	p, _ := plate.New(20)
	for i := range 20 {
		is(t, "write", p.Write(i, bytes.Repeat([]byte{0xee}, api.Size)), api.OK)
	}
	is(t, "sync", p.Sync(), api.OK)
	_, want := shelf.Open(p.Copy())
	if want == api.OK {
		t.Fatal("a plate of other bytes has a shelf")
	}
	refuses(t, "other bytes", p.Image(), want)
}

// P23.1: shelf.Held.
func TestShards(t *testing.T) {
	tells(t, "noughts", sectors(6, api.Size))
	tells(t, "the most sectors", sectors(api.MaxSectors, api.Size))
	tells(t, "an empty shelf", image(t))
	one := api.Held{Blob: 7, Index: 2, Bytes: shard(1)}
	tells(t, "one shard", image(t, one), one)
	edge := api.Held{Blob: api.MaxNumber, Index: api.MaxNumber, Bytes: some(api.MaxRecord - 20)}
	nought := api.Held{Blob: 0, Index: 0, Bytes: []byte{0}}
	tells(t, "edges", image(t, edge, nought), nought, edge)
	var in, want []api.Held
	for i := range 60 {
		in = append(in, api.Held{Blob: 9 - i%10, Index: i / 10, Bytes: shard(i)})
		want = append(want, api.Held{Blob: i / 6, Index: i % 6, Bytes: shard(9 - i/6 + i%6*10)})
	}
	tells(t, "many shards", image(t, in...), want...)
}

// What is dropped is not there; fences and notes are no shards.
func TestShardsThatAreDropped(t *testing.T) {
	p, s := disk(t, 100)
	for i := range 6 {
		is(t, "store", s.Store(i/3, i%3, 0, shard(i)), api.OK)
		is(t, "fence", s.Fence(i/3, i%3, 5), api.OK)
		is(t, "note", s.Note(i, shard(i)), api.OK)
	}
	is(t, "fence", s.Fence(8, 8, 8), api.OK)
	for _, i := range []int{0, 2, 4} {
		is(t, "drop", s.Drop(i/3, i%3), api.OK)
	}
	is(t, "store", s.Store(1, 1, 5, shard(44)), api.OK)
	tells(t, "some dropped", synced(t, p, s),
		api.Held{Blob: 0, Index: 1, Bytes: shard(1)},
		api.Held{Blob: 1, Index: 0, Bytes: shard(3)},
		api.Held{Blob: 1, Index: 1, Bytes: shard(44)},
		api.Held{Blob: 1, Index: 2, Bytes: shard(5)})
	for _, h := range s.Held() {
		is(t, "drop", s.Drop(h.Blob, h.Index), api.OK)
	}
	tells(t, "all dropped", synced(t, p, s))
}

// An image has what is durable, and not what is to come.
func TestShardsThatAreNotSynced(t *testing.T) {
	p, s := disk(t, 100)
	one, two := api.Held{Blob: 1, Index: 0, Bytes: shard(1)}, api.Held{Blob: 2, Index: 0, Bytes: shard(2)}
	is(t, "store", s.Store(1, 0, 0, one.Bytes), api.OK)
	tells(t, "not synced", p.Image())
	tells(t, "synced", synced(t, p, s), one)
	is(t, "store", s.Store(2, 0, 0, two.Bytes), api.OK)
	is(t, "drop", s.Drop(1, 0), api.OK)
	tells(t, "one of both synced", p.Image(), one)
	tells(t, "both", synced(t, p, s), two)
	is(t, "fail", p.Fail(), api.OK)
	refuses(t, "a disk that has failed", p.Image(), api.ErrArg)
}

// P3: whatever a crash keeps, an image has what was synced and a beginning of
// what came later.
func TestShardsBehindCrashes(t *testing.T) {
	p, s := disk(t, 40)
	one, two, three := api.Held{Blob: 1, Index: 0, Bytes: some(50)}, api.Held{Blob: 2, Index: 0, Bytes: some(60)}, api.Held{Blob: 3, Index: 0, Bytes: shard(3)}
	is(t, "store", s.Store(1, 0, 0, one.Bytes), api.OK)
	synced(t, p, s)
	is(t, "store", s.Store(2, 0, 0, two.Bytes), api.OK)
	is(t, "store", s.Store(3, 0, 0, three.Bytes), api.OK)
	dirty, seen := p.Dirty(), map[int]int{}
	for set := range 1 << len(dirty) {
		var keep []int
		for i, sector := range dirty {
			if set>>i&1 == 1 {
				keep = append(keep, sector)
			}
		}
		for _, torn := range append([]int{-1}, dirty...) {
			after := p.Copy()
			is(t, "crash", after.Crash(keep, torn, 30), api.OK)
			got, e := audit.Shards(after.Image())
			is(t, "shards", e, api.OK)
			if len(got) == 0 || len(got) > 3 || !reflect.DeepEqual(got, []api.Held{one, two, three}[:len(got)]) {
				t.Fatalf("kept %v, torn %d: %v", keep, torn, got)
			}
			seen[len(got)]++
		}
	}
	if len(seen) != 3 {
		t.Fatalf("so many shards were left: %v", seen)
	}
}

// placed is a blob of five shards, each on a disk of its own, and its bytes.
func placed(t *testing.T, size int) ([][][]byte, api.Blob, []byte) {
	t.Helper()
	b := api.Blob{ID: 7, Size: size, Code: api.Code{K: 3, M: 2}, Nodes: []int{4, 2, 0, 5, 1}}
	images := make([][][]byte, 6)
	for i, s := range cut(t, b.Code, some(size)) {
		images[b.Nodes[i]] = image(t, api.Held{Blob: 7, Index: i, Bytes: s})
	}
	return images, b, some(size)
}

func cut(t *testing.T, c api.Code, blob []byte) [][]byte {
	t.Helper()
	l, e := stripe.Cut(c, blob)
	is(t, "cut", e, api.OK)
	return l
}

func sound(t *testing.T, what string, images [][][]byte, b api.Blob, blob []byte, want bool) {
	t.Helper()
	if got := audit.Sound(images, b, blob); got != want {
		t.Fatalf("%s: %v", what, got)
	}
}

// P23.2: a sound blob, of each size, and of a wrong one.
func TestSizes(t *testing.T) {
	for _, size := range []int{0, 1, 8, 23, 24, 25, api.MaxBlob - 1, api.MaxBlob} {
		images, b, blob := placed(t, size)
		sound(t, "as it is", images, b, blob, true)
		sound(t, "one byte more", images, b, append(some(size), 0), false)
		if size > 0 {
			sound(t, "one byte fewer", images, b, blob[:size-1], false)
			sound(t, "no bytes", images, b, nil, false)
			for _, i := range []int{0, size / 2, size - 1} {
				other := some(size)
				other[i] ^= 1
				sound(t, "another byte", images, b, other, false)
			}
		}
		for _, other := range []int{size - 1, size + 1, -1, 1 << 62, -1 << 63} {
			if other != size {
				b.Size = other
				sound(t, "another size", images, b, blob, false)
			}
		}
	}
	images, b, _ := placed(t, api.MaxBlob)
	b.Size++
	sound(t, "too great a blob", images, b, some(api.MaxBlob+1), false)
	images, b, _ = placed(t, 0)
	sound(t, "a blob of no bytes, as an empty list", images, b, []byte{}, true)
	b.Size = 1
	sound(t, "shards of noughts are those of one nought", images, b, []byte{0}, true)
}

// P23.2: codes that may not be, and such that are not the blob's.
func TestCodes(t *testing.T) {
	images, b, blob := placed(t, 30)
	for _, c := range []api.Code{{}, {K: 0, M: 5}, {K: 5, M: -1}, {K: 6, M: -1}, {K: -1, M: 6}, {K: 3, M: 1}, {K: 2, M: 3}, {K: 4, M: 1}, {K: 3, M: 3}, {K: 1 << 62, M: 1 << 62}, {K: 1 << 63 - 1, M: 1 << 63 - 1}} {
		b.Code = c
		sound(t, "another code", images, b, blob, false)
	}
	wide := api.Blob{ID: 1, Size: 9, Code: api.Code{K: 2, M: 253}, Nodes: make([]int, 255)}
	shards := cut(t, wide.Code, some(9))
	p, s := disk(t, 2000)
	for i, x := range shards {
		is(t, "store", s.Store(1, i, 0, x), api.OK)
	}
	one := [][][]byte{synced(t, p, s)}
	sound(t, "the widest code", one, wide, some(9), true)
	wide.Code.M++
	sound(t, "too wide a code", one, wide, some(9), false)
	wide.Nodes = make([]int, 256)
	sound(t, "too wide a code, and as many nodes", one, wide, some(9), false)
	narrow := api.Blob{ID: 1, Size: 9, Code: api.Code{K: 1, M: 0}, Nodes: []int{0}}
	sound(t, "the narrowest code", [][][]byte{image(t, api.Held{Blob: 1, Index: 0, Bytes: cut(t, narrow.Code, some(9))[0]})}, narrow, some(9), true)
}

// P23.2: Nodes are K + M.
func TestNodes(t *testing.T) {
	images, b, blob := placed(t, 30)
	sound(t, "five nodes", images, b, blob, true)
	for _, nodes := range [][]int{nil, {}, b.Nodes[:4], b.Nodes[:3], append(b.Nodes[:5:5], 3), append(b.Nodes[:5:5], -1), append(b.Nodes[:5:5], b.Nodes...)} {
		other := b
		other.Nodes = nodes
		sound(t, "other nodes", images, other, blob, false)
	}
	for _, n := range []int{-1, -2, 6, 7, 1 << 62, -1 << 63, 3} {
		other := b
		other.Nodes = []int{n, 2, 0, n, 1}
		sound(t, "two nodes that have nothing", images, other, blob, true)
		other.Nodes = []int{n, 2, n, n, 1}
		sound(t, "three nodes that have nothing", images, other, blob, false)
	}
	other := b
	other.Nodes = []int{2, 4, 0, 5, 1}
	sound(t, "two shards that lie elsewhere", images, other, blob, true)
	other.Nodes = []int{2, 4, 5, 0, 1}
	sound(t, "four shards that lie elsewhere", images, other, blob, false)
	sound(t, "images up to the last node", images[:5], b, blob, true)
	sound(t, "images up to the third shard", images[:3], b, blob, true)
	sound(t, "images up to the second shard", images[:2], b, blob, false)
	sound(t, "no images", nil, b, blob, false)
	sound(t, "no images", [][][]byte{}, b, blob, false)
	sound(t, "more images", append(images[:6:6], images...), b, blob, true)
	b.ID = 8
	sound(t, "another blob", images, b, blob, false)
	b.ID = -7
	sound(t, "a blob that is none", images, b, blob, false)
}

// P23.2: the same node twice: each of its shards counts, and has to be right.
func TestNodeTwice(t *testing.T) {
	b := api.Blob{ID: 7, Size: 10, Code: api.Code{K: 2, M: 1}, Nodes: []int{1, 1, 0}}
	l := cut(t, b.Code, some(10))
	both := image(t, api.Held{Blob: 7, Index: 0, Bytes: l[0]}, api.Held{Blob: 7, Index: 1, Bytes: l[1]})
	sound(t, "both on one node", [][][]byte{nil, both}, b, some(10), true)
	turned := image(t, api.Held{Blob: 7, Index: 0, Bytes: l[0]}, api.Held{Blob: 7, Index: 1, Bytes: l[2]})
	sound(t, "one of both is another one", [][][]byte{nil, turned}, b, some(10), false)
	twice := image(t, api.Held{Blob: 7, Index: 0, Bytes: l[0]})
	sound(t, "one of both is missing", [][][]byte{nil, twice}, b, some(10), false)
	sound(t, "one image at two places", [][][]byte{both, both}, b, some(10), true)
	b.Nodes = []int{0, 1, 0}
	sound(t, "one image at two places, a shard on each", [][][]byte{both, both}, b, some(10), true)
}

// P23.2: K - 1, K and all shards, of each choice.
func TestFewShards(t *testing.T) {
	all, b, blob := placed(t, 30)
	for set := range 1 << 5 {
		images, count := make([][][]byte, 6), 0
		for i, n := range b.Nodes {
			if set>>i&1 == 1 {
				images[n] = all[n]
				count++
			}
		}
		sound(t, "some shards", images, b, blob, count >= 3)
		for i := range images {
			if images[i] == nil {
				images[i] = sectors(3, api.Size)
			}
		}
		sound(t, "some shards, and images that are refused", images, b, blob, count >= 3)
		for i := range images {
			if len(images[i]) == 3 {
				images[i] = image(t)
			}
		}
		sound(t, "some shards, and empty shelves", images, b, blob, count >= 3)
	}
}

// Example 1, and P23.2: each shard that is there has to be Cut's.
func TestWrongShards(t *testing.T) {
	for i := range 5 {
		images, b, blob := placed(t, 30)
		l := cut(t, b.Code, blob)
		right := bytes.Clone(l[i])
		wrong := [][]byte{right[:15], append(bytes.Clone(right), 0), {1}, l[(i+1)%5], l[(i+4)%5], some(16)}
		for at := range right {
			turned := bytes.Clone(right)
			turned[at] ^= 1 << (at % 8)
			wrong = append(wrong, turned)
		}
		for _, w := range wrong {
			images[b.Nodes[i]] = image(t, api.Held{Blob: 7, Index: i, Bytes: w})
			sound(t, "a wrong shard", images, b, blob, false)
		}
		images[b.Nodes[i]] = image(t, api.Held{Blob: 7, Index: i, Bytes: right})
		sound(t, "the right one", images, b, blob, true)
	}
}

// Shards that are no part of the placement play no part, whatever they are.
func TestShardsBeside(t *testing.T) {
	images, b, blob := placed(t, 30)
	l := cut(t, b.Code, blob)
	images[3] = image(t, api.Held{Blob: 7, Index: 0, Bytes: shard(1)})
	images[0] = image(t, api.Held{Blob: 7, Index: 2, Bytes: l[2]},
		api.Held{Blob: 7, Index: 0, Bytes: shard(1)}, api.Held{Blob: 7, Index: 3, Bytes: shard(2)},
		api.Held{Blob: 7, Index: 5, Bytes: shard(3)}, api.Held{Blob: 7, Index: api.MaxNumber, Bytes: shard(4)},
		api.Held{Blob: 6, Index: 2, Bytes: shard(5)}, api.Held{Blob: 8, Index: 2, Bytes: shard(6)})
	sound(t, "others beside", images, b, blob, true)
	images[4], images[5] = nil, nil
	sound(t, "three of them", images, b, blob, true)
	images[3] = image(t, api.Held{Blob: 7, Index: 0, Bytes: l[0]})
	images[1] = image(t, api.Held{Blob: 7, Index: 0, Bytes: l[0]}, api.Held{Blob: 7, Index: 3, Bytes: l[3]})
	sound(t, "right ones that lie elsewhere do not count", images, b, blob, false)
}

// P23.2: what a disk has behind the crash counts, not what was there once.
func TestDroppedShards(t *testing.T) {
	images, b, blob := placed(t, 30)
	l := cut(t, b.Code, blob)
	for i := range 3 {
		p, s := disk(t, 60)
		is(t, "store", s.Store(7, i, 0, l[i]), api.OK)
		is(t, "fence", s.Fence(7, i, 9), api.OK)
		synced(t, p, s)
		is(t, "drop", s.Drop(7, i), api.OK)
		images[b.Nodes[i]] = p.Image()
		sound(t, "a drop that was not synced", images, b, blob, true)
		images[b.Nodes[i]] = synced(t, p, s)
		sound(t, "dropped", images, b, blob, i < 2)
	}
}

// P23.3: any K shards of a sound blob are its bytes.
func TestAnyShards(t *testing.T) {
	for _, size := range []int{0, 1, 24, 30, 400} {
		images, b, blob := placed(t, size)
		sound(t, "a blob", images, b, blob, true)
		for set := range 1 << 5 {
			some, count := make([][]byte, 5), 0
			for i, n := range b.Nodes {
				if set>>i&1 == 1 {
					held, e := audit.Shards(images[n])
					is(t, "shards", e, api.OK)
					some[i] = held[0].Bytes
					count++
				}
			}
			got, e := stripe.Join(b.Code, b.Size, some)
			if count < 3 {
				is(t, "too few", e, api.ErrFew)
			} else if e != api.OK || !bytes.Equal(got, blob) {
				t.Fatalf("of the shards %05b: %x, %v", set, got, e)
			}
		}
	}
}
